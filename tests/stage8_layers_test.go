package tests

import (
	"fmt"
	"math/rand"
	"slices"
	"testing"

	"loop.example/g00882/impl"
)

// Promise 8: flattening a stack preserves every lookup; a shadowed entry is never returned.
// Promise 26, for chapter 8: every function returns for all arguments and modifies none of them.

var noStack impl.Stack

func stack(layers ...impl.Layer) impl.Stack { return impl.Stack{Layers: layers} }

func layer(enabled bool, l ...impl.Entry) impl.Layer {
	return impl.Layer{Dict: dictionary(l...), Enabled: enabled}
}

func on(l ...impl.Entry) impl.Layer { return layer(true, l...) }

func off(l ...impl.Entry) impl.Layer { return layer(false, l...) }

func shadow(layer, by int, o ...int) impl.Shadowed {
	return impl.Shadowed{Layer: layer, By: by, Outline: o}
}

// expectedFound looks through the enabled layers one after the other. The text is empty if none
// has the outline.
func expectedFound(s impl.Stack, o []int) (string, int) {
	for i, l := range s.Layers {
		if text := expectedLookup(l.Dict, o); text != "" && l.Enabled {
			return text, i
		}
	}
	return "", 0
}

// outlinesIn lists the outlines of all layers, disabled ones too, in order and each of them once.
func outlinesIn(s impl.Stack) [][]int {
	var all [][]int
	for _, l := range s.Layers {
		for _, e := range l.Dict.Entries {
			all = append(all, e.Outline)
		}
	}
	slices.SortFunc(all, expectedOrder)
	return slices.CompactFunc(all, slices.Equal[[]int])
}

// expectedFlat may have more entries than a dictionary.
func expectedFlat(s impl.Stack) impl.Dictionary {
	var d impl.Dictionary
	for _, o := range outlinesIn(s) {
		if text, _ := expectedFound(s, o); text != "" {
			d.Entries = append(d.Entries, entryOf(text, o...))
		}
	}
	return d
}

func expectedShadowed(s impl.Stack) []impl.Shadowed {
	var all []impl.Shadowed
	for i, l := range s.Layers {
		for _, e := range l.Dict.Entries {
			if _, by := expectedFound(s, e.Outline); l.Enabled && by < i {
				all = append(all, shadow(i, by, e.Outline...))
			}
		}
	}
	return all
}

// expectedMove numbers the layers, so that what is moved is a number.
func expectedMove(s impl.Stack, from, to int) impl.Stack {
	var rest []int
	for i := range s.Layers {
		if i != from {
			rest = append(rest, i)
		}
	}
	var moved impl.Stack
	for i := range s.Layers {
		switch {
		case i == to:
			moved.Layers = append(moved.Layers, s.Layers[from])
		case i < to:
			moved.Layers = append(moved.Layers, s.Layers[rest[i]])
		default:
			moved.Layers = append(moved.Layers, s.Layers[rest[i-1]])
		}
	}
	return moved
}

func expectedSet(s impl.Stack, i int, enabled bool) impl.Stack {
	set := stack(slices.Clone(s.Layers)...)
	set.Layers[i].Enabled = enabled
	return set
}

func expectedRemove(s impl.Stack, i int) impl.Stack {
	var rest impl.Stack
	for k, l := range s.Layers {
		if k != i {
			rest.Layers = append(rest.Layers, l)
		}
	}
	return rest
}

func sameLayer(a, b impl.Layer) bool { return a.Enabled == b.Enabled && sameEntries(a.Dict, b.Dict) }

func sameStack(a, b impl.Stack) bool { return slices.EqualFunc(a.Layers, b.Layers, sameLayer) }

func sameShadowed(a, b []impl.Shadowed) bool {
	return slices.EqualFunc(a, b, func(x, y impl.Shadowed) bool {
		return x.Layer == y.Layer && x.By == y.By && slices.Equal(x.Outline, y.Outline)
	})
}

// shownStack spares the reader most of the largest stacks.
func shownStack(s impl.Stack) string {
	text := fmt.Sprint(len(s.Layers), " layers:")
	for i, l := range s.Layers[:min(len(s.Layers), 6)] {
		text += fmt.Sprintf(" [%d: %v %s]", i, l.Enabled, shownDictionary(l.Dict))
	}
	return text
}

// cloneStack leaves room behind the last layer, behind the last entry of each layer and in every
// outline, so that what is read or written there shows too.
func cloneStack(s impl.Stack) impl.Stack {
	all := append(slices.Clone(s.Layers), on(entryOf("behind", 1), entryOf("behind", 2), entryOf("behind", 10)), off(entryOf("{", 0)), on())
	for i := range all {
		all[i].Dict = withRoom(all[i].Dict)
	}
	return stack(all[:len(s.Layers)]...)
}

// memoryOfStack copies all layers, what is in the room included.
func memoryOfStack(s impl.Stack) impl.Stack {
	all := slices.Clone(s.Layers[:cap(s.Layers)])
	for i, l := range all {
		all[i].Dict = memoryOf(l.Dict)
	}
	return stack(all...)
}

func withStack(t *testing.T, name string, s impl.Stack, f func(s impl.Stack)) {
	t.Helper()
	s = cloneStack(s)
	before := memoryOfStack(s)
	f(s)
	if after := memoryOfStack(s); !sameStack(after, before) {
		t.Fatalf("%s changed %s to %s", name, shownStack(before), shownStack(after))
	}
}

// overwriteStack shows outlines and lists of entries that share memory with each other, see
// overwrite; a stack that shares memory is changed.
func overwriteStack(t *testing.T, name string, s impl.Stack) {
	t.Helper()
	var outlines [][]int
	for _, l := range s.Layers {
		for _, e := range l.Dict.Entries {
			outlines = append(outlines, e.Outline)
		}
	}
	overwrite(t, name, outlines)
	for i, l := range s.Layers {
		for k := range cap(l.Dict.Entries) {
			l.Dict.Entries[:cap(l.Dict.Entries)][k] = entryOf(fmt.Sprint("overwritten", i), -100)
		}
	}
	for i, l := range s.Layers {
		for _, e := range l.Dict.Entries[:cap(l.Dict.Entries)] {
			if e.Text != fmt.Sprint("overwritten", i) {
				t.Fatalf("%s returned two layers that share memory", name)
			}
		}
	}
	for i := range cap(s.Layers) {
		s.Layers[:cap(s.Layers)][i] = on(entryOf("overwritten", -100))
	}
}

func overwriteShadowed(t *testing.T, name string, l []impl.Shadowed) {
	t.Helper()
	var outlines [][]int
	for _, s := range l {
		outlines = append(outlines, s.Outline)
	}
	overwrite(t, name, outlines)
}

func checkIsStack(t *testing.T, s impl.Stack, want bool) {
	t.Helper()
	withStack(t, "IsValidStack", s, func(s impl.Stack) {
		if got := impl.IsValidStack(s); got != want {
			t.Errorf("IsValidStack(%s) = %v", shownStack(s), got)
		}
	})
}

// checkFound expects a failure if want is empty.
func checkFound(t *testing.T, s impl.Stack, o []int, want string, wantLayer int) {
	t.Helper()
	withStack(t, "LookupStack", s, func(s impl.Stack) {
		l := lend(o)
		if got, i, ok := impl.LookupStack(s, l.outline); got != want || i != wantLayer || ok != (want != "") {
			t.Errorf("LookupStack(%s, %s) = %.60q, %d, %v; want %q, %d", shownStack(s), shown(o), got, i, ok, want, wantLayer)
		}
		checkUnchanged(t, "LookupStack", l)
	})
}

func checkFlatten(t *testing.T, s impl.Stack, want impl.Dictionary, wantOK bool) {
	t.Helper()
	withStack(t, "Flatten", s, func(s impl.Stack) {
		got, ok := impl.Flatten(s)
		if !sameEntries(got, want) || ok != wantOK {
			t.Errorf("Flatten(%s) = %s, %v; want %s", shownStack(s), shownDictionary(got), ok, shownDictionary(want))
		}
		overwriteDictionary(t, "Flatten", got)
	})
}

func checkShadowed(t *testing.T, s impl.Stack, want []impl.Shadowed, wantOK bool) {
	t.Helper()
	withStack(t, "ShadowedEntries", s, func(s impl.Stack) {
		got, ok := impl.ShadowedEntries(s)
		if !sameShadowed(got, want) || ok != wantOK {
			t.Errorf("ShadowedEntries(%s) = %v, %v; want %v", shownStack(s), got, ok, want)
		}
		overwriteShadowed(t, "ShadowedEntries", got)
	})
}

func checkOutlinesFor(t *testing.T, s impl.Stack, text string, want [][]int, wantOK bool) {
	t.Helper()
	withStack(t, "OutlinesFor", s, func(s impl.Stack) {
		got, ok := impl.OutlinesFor(s, text)
		if !slices.EqualFunc(got, want, slices.Equal[[]int]) || ok != wantOK {
			t.Errorf("OutlinesFor(%s, %.60q) = %v, %v; want %v", shownStack(s), text, got, ok, want)
		}
		overwrite(t, "OutlinesFor", got)
	})
}

// checkChanged hands s over to a function that returns a stack.
func checkChanged(t *testing.T, name string, s impl.Stack, change func(s impl.Stack) (impl.Stack, bool), want impl.Stack, wantOK bool) {
	t.Helper()
	withStack(t, name, s, func(s impl.Stack) {
		got, ok := change(s)
		if !sameStack(got, want) || ok != wantOK {
			t.Errorf("%s of %s = %s, %v; want %s", name, shownStack(s), shownStack(got), ok, shownStack(want))
		}
		overwriteStack(t, name, got)
	})
}

func checkSet(t *testing.T, s impl.Stack, i int, enabled bool, want impl.Stack, wantOK bool) {
	t.Helper()
	name := fmt.Sprint("SetEnabled(", i, enabled, ")")
	checkChanged(t, name, s, func(s impl.Stack) (impl.Stack, bool) { return impl.SetEnabled(s, i, enabled) }, want, wantOK)
}

func checkMove(t *testing.T, s impl.Stack, from, to int, want impl.Stack, wantOK bool) {
	t.Helper()
	name := fmt.Sprint("MoveLayer(", from, to, ")")
	checkChanged(t, name, s, func(s impl.Stack) (impl.Stack, bool) { return impl.MoveLayer(s, from, to) }, want, wantOK)
}

func checkRemove(t *testing.T, s impl.Stack, i int, want impl.Stack, wantOK bool) {
	t.Helper()
	name := fmt.Sprint("RemoveLayer(", i, ")")
	checkChanged(t, name, s, func(s impl.Stack) (impl.Stack, bool) { return impl.RemoveLayer(s, i) }, want, wantOK)
}

func checkPush(t *testing.T, s impl.Stack, d impl.Dictionary, want impl.Stack, wantOK bool) {
	t.Helper()
	name := "PushLayer(" + shownDictionary(d) + ")"
	withDictionary(t, name, d, func(d impl.Dictionary) {
		checkChanged(t, name, s, func(s impl.Stack) (impl.Stack, bool) { return impl.PushLayer(s, d) }, want, wantOK)
	})
}

// checkReads asks all functions that change nothing, about every outline and every text of s and
// some that are not there.
func checkReads(t *testing.T, s impl.Stack) {
	t.Helper()
	checkIsStack(t, s, true)
	flat := expectedFlat(s)
	if len(flat.Entries) > 40 {
		checkFlatten(t, s, noDictionary, false)
	} else {
		checkFlatten(t, s, flat, true)
	}
	checkShadowed(t, s, expectedShadowed(s), true)
	for _, o := range append(outlinesIn(s), []int{7777}, []int{1, 7777}) {
		text, i := expectedFound(s, o)
		checkFound(t, s, o, text, i)
	}
	texts := map[string]bool{"": true, "not there": true}
	for _, l := range s.Layers {
		for _, e := range l.Dict.Entries {
			texts[e.Text] = true
		}
	}
	for text := range texts {
		checkOutlinesFor(t, s, text, expectedReverse(flat, text), true)
	}
}

// indexesAround lists what is not the index of one of n layers.
func indexesAround(n int) []int {
	return append([]int{n, n + 1, 4, 5, n + 1<<32, 1 << 32, -n}, notNodes...)
}

// checkChanges asks all functions that return a stack, for all of their indexes.
func checkChanges(t *testing.T, s impl.Stack) {
	t.Helper()
	n := len(s.Layers)
	for i := range n {
		checkSet(t, s, i, true, expectedSet(s, i, true), true)
		checkSet(t, s, i, false, expectedSet(s, i, false), true)
		checkRemove(t, s, i, expectedRemove(s, i), true)
		for to := range n {
			checkMove(t, s, i, to, expectedMove(s, i, to), true)
		}
	}
	for _, d := range []impl.Dictionary{noDictionary, dictionary(entryOf("pushed", 1), entryOf("pushed", 5, 5))} {
		if n < 4 {
			checkPush(t, s, d, stack(slices.Insert(slices.Clone(s.Layers), 0, on(d.Entries...))...), true)
		} else {
			checkPush(t, s, d, noStack, false)
		}
	}
}

func checkNoLayer(t *testing.T, s impl.Stack, i int) {
	t.Helper()
	checkSet(t, s, i, true, noStack, false)
	checkSet(t, s, i, false, noStack, false)
	checkRemove(t, s, i, noStack, false)
	checkMove(t, s, i, i, noStack, false)
	for k := range min(max(len(s.Layers), 1), 6) {
		checkMove(t, s, i, k, noStack, false)
		checkMove(t, s, k, i, noStack, false)
	}
}

func checkStack(t *testing.T, s impl.Stack) {
	t.Helper()
	checkReads(t, s)
	checkChanges(t, s)
}

// checkNoStack also asks for what the stack would hold.
func checkNoStack(t *testing.T, s impl.Stack) {
	t.Helper()
	checkIsStack(t, s, false)
	checkFlatten(t, s, noDictionary, false)
	checkShadowed(t, s, nil, false)
	for _, o := range [][]int{{1}, {2}, {1, 2}, {10}, {20, 1}, {1, 2, 3, 4, 5, 6}, {}, {largestStroke}} {
		checkFound(t, s, o, "", 0)
	}
	for _, text := range []string{"a", "b", "w1", "", "same", "not there"} {
		checkOutlinesFor(t, s, text, nil, false)
	}
	checkPush(t, s, noDictionary, noStack, false)
	checkPush(t, s, dictionary(entryOf("a", 1)), noStack, false)
	for i := -1; i <= min(len(s.Layers), 6); i++ {
		checkNoLayer(t, s, i)
	}
}

// exampleStack is the s of the examples.
func exampleStack() impl.Stack {
	return stack(on(entryOf("a", 1)), on(entryOf("b", 1), entryOf("b", 2)))
}

// alike has n layers with the same outlines, whose texts tell the layers apart.
func alike(n int) impl.Stack {
	var s impl.Stack
	for i := range n {
		text := fmt.Sprint("t", i)
		s.Layers = append(s.Layers, on(entryOf(text, 1), entryOf(text, 1, 2), entryOf("same", 3)))
	}
	return s
}

// enabledAs enables the layers whose bits are 1.
func enabledAs(s impl.Stack, bits int) impl.Stack {
	for i := range s.Layers {
		s = expectedSet(s, i, bits>>i&1 == 1)
	}
	return s
}

// spread deals the entries of numbered(n) out to the layers in turn.
func spread(n, layers int) impl.Stack {
	var s impl.Stack
	for range layers {
		s.Layers = append(s.Layers, on())
	}
	for i, e := range numbered(n).Entries {
		l := &s.Layers[i%layers]
		l.Dict.Entries = append(l.Dict.Entries, e)
	}
	return s
}

func TestConstantOfChapter8(t *testing.T) {
	if impl.MaxLayers != 4 {
		t.Error("layers", impl.MaxLayers)
	}
}

func TestTheStackOfTheExamples(t *testing.T) {
	s := exampleStack()
	checkIsStack(t, s, true)
	checkFound(t, s, []int{1}, "a", 0)
	checkFound(t, s, []int{2}, "b", 1)
	checkFlatten(t, s, dictionary(entryOf("a", 1), entryOf("b", 2)), true)
	checkShadowed(t, s, []impl.Shadowed{shadow(1, 0, 1)}, true)
	disabled := stack(off(entryOf("a", 1)), on(entryOf("b", 1), entryOf("b", 2)))
	checkSet(t, s, 0, false, disabled, true)
	checkFound(t, disabled, []int{1}, "b", 1)
	moved := stack(on(entryOf("b", 1), entryOf("b", 2)), on(entryOf("a", 1)))
	checkMove(t, s, 0, 1, moved, true)
	checkFound(t, moved, []int{1}, "b", 0)
	checkOutlinesFor(t, s, "b", [][]int{{2}}, true)
	checkStack(t, s)
}

// Here the program's own results are handed on.
func TestTheExamplesOneAfterTheOther(t *testing.T) {
	disabled, _ := impl.SetEnabled(exampleStack(), 0, false)
	checkFound(t, disabled, []int{1}, "b", 1)
	checkOutlinesFor(t, disabled, "b", [][]int{{1}, {2}}, true)
	checkShadowed(t, disabled, nil, true)
	moved, _ := impl.MoveLayer(exampleStack(), 0, 1)
	checkFound(t, moved, []int{1}, "b", 0)
	checkShadowed(t, moved, []impl.Shadowed{shadow(1, 0, 1)}, true)
	checkFlatten(t, moved, dictionary(entryOf("b", 1), entryOf("b", 2)), true)
	pushed, _ := impl.PushLayer(exampleStack(), dictionary(entryOf("c", 1), entryOf("c", 2)))
	checkFound(t, pushed, []int{1}, "c", 0)
	checkShadowed(t, pushed, []impl.Shadowed{shadow(1, 0, 1), shadow(2, 0, 1), shadow(2, 0, 2)}, true)
	removed, _ := impl.RemoveLayer(pushed, 1)
	checkFound(t, removed, []int{2}, "c", 0)
	checkFound(t, expectedRemove(removed, 0), []int{1}, "b", 0)
}

func TestAStackWithoutLayers(t *testing.T) {
	checkStack(t, noStack)
	checkFlatten(t, noStack, noDictionary, true)
	checkShadowed(t, noStack, nil, true)
	checkOutlinesFor(t, noStack, "a", nil, true)
	checkPush(t, noStack, dictionary(entryOf("a", 1)), stack(on(entryOf("a", 1))), true)
	for _, i := range append([]int{0}, indexesAround(0)...) {
		checkNoLayer(t, noStack, i)
	}
	for _, s := range []impl.Stack{{}, {Layers: []impl.Layer{}}, {Layers: exampleStack().Layers[:0]}} {
		checkWithoutLayers(t, s)
	}
}

// Here s itself is handed over, a nil slice too.
func checkWithoutLayers(t *testing.T, s impl.Stack) {
	t.Helper()
	if text, i, ok := impl.LookupStack(s, []int{1}); text != "" || i != 0 || ok || !impl.IsValidStack(s) {
		t.Error("found", text, i, ok)
	}
	if d, ok := impl.Flatten(s); len(d.Entries) != 0 || !ok {
		t.Error("flat", d, ok)
	}
	if l, ok := impl.ShadowedEntries(s); len(l) != 0 || !ok {
		t.Error("shadowed", l, ok)
	}
	if l, ok := impl.OutlinesFor(s, "a"); len(l) != 0 || !ok {
		t.Error("outlines", l, ok)
	}
	if after, ok := impl.PushLayer(s, dictionary()); !sameStack(after, stack(on())) || !ok {
		t.Error("pushed", after, ok)
	}
	if after, ok := impl.RemoveLayer(s, 0); len(after.Layers) != 0 || ok {
		t.Error("removed", after, ok)
	}
}

func TestStacksOfEveryHeight(t *testing.T) {
	for n := range 5 {
		checkStack(t, alike(n))
		for entries := range 13 {
			checkStack(t, spread(entries, max(n, 1)))
		}
	}
	checkStack(t, stack(on(), on(), on(), on()))
	checkStack(t, stack(off(), off(), off(), off()))
	checkStack(t, stack(off()))
	for _, text := range validTexts {
		checkStack(t, stack(on(entryOf("a", 2)), on(entryOf(text, 2), entryOf(text, 2, 1), entryOf(text, largestStroke)), on(entryOf(text, 1), entryOf(text, 2, 1))))
	}
}

// The same outlines in all layers, each of which is enabled or not.
func TestTheSameOutlineInAllLayers(t *testing.T) {
	for n := 1; n <= 4; n++ {
		for bits := range 1 << n {
			checkStack(t, enabledAs(alike(n), bits))
		}
	}
	checkFound(t, alike(4), []int{1, 2}, "t0", 0)
	for i := range 4 {
		s := expectedSet(alike(4), i, false)
		first := 0
		if i == 0 {
			first = 1
		}
		checkFound(t, s, []int{1, 2}, fmt.Sprint("t", first), first)
		only := enabledAs(alike(4), 1<<i)
		checkFound(t, only, []int{1, 2}, fmt.Sprint("t", i), i)
		checkShadowed(t, only, nil, true)
		checkOutlinesFor(t, only, "same", [][]int{{3}}, true)
	}
}

func TestAllLayersDisabled(t *testing.T) {
	for n := 1; n <= 4; n++ {
		s := enabledAs(alike(n), 0)
		checkStack(t, s)
		checkFound(t, s, []int{1}, "", 0)
		checkFlatten(t, s, noDictionary, true)
		checkShadowed(t, s, nil, true)
		checkOutlinesFor(t, s, "same", nil, true)
	}
	checkStack(t, enabledAs(spread(160, 4), 0))
}

// A disabled layer keeps its position, so that it is where it was when it is enabled again.
func TestADisabledLayerBetweenTwoEnabledOnes(t *testing.T) {
	s := stack(on(entryOf("a", 1)), off(entryOf("b", 1), entryOf("b", 2), entryOf("b", 3)), on(entryOf("c", 1), entryOf("c", 2)))
	checkStack(t, s)
	checkFound(t, s, []int{1}, "a", 0)
	checkFound(t, s, []int{2}, "c", 2)
	checkFound(t, s, []int{3}, "", 0)
	checkFlatten(t, s, dictionary(entryOf("a", 1), entryOf("c", 2)), true)
	checkShadowed(t, s, []impl.Shadowed{shadow(2, 0, 1)}, true)
	checkOutlinesFor(t, s, "b", nil, true)
	again, _ := impl.SetEnabled(s, 1, true)
	checkFound(t, again, []int{2}, "b", 1)
	checkFound(t, again, []int{3}, "b", 1)
	checkShadowed(t, again, []impl.Shadowed{shadow(1, 0, 1), shadow(2, 0, 1), shadow(2, 1, 2)}, true)
	for i := range 4 {
		checkStack(t, expectedSet(alike(4), i, false))
	}
}

func TestAnOutlineThatOnlyADisabledLayerHas(t *testing.T) {
	for i := range 4 {
		s := alike(4)
		s.Layers[i] = off(entryOf("only", 2), entryOf("only", 2, 2))
		checkStack(t, s)
		checkFound(t, s, []int{2}, "", 0)
		checkFound(t, s, []int{2, 2}, "", 0)
		checkOutlinesFor(t, s, "only", nil, true)
		checkFound(t, expectedSet(s, i, true), []int{2}, "only", i)
		checkOutlinesFor(t, expectedSet(s, i, true), "only", [][]int{{2}, {2, 2}}, true)
	}
}

// A disabled layer hides nothing and is not hidden.
func TestADisabledLayerShadowsNothing(t *testing.T) {
	one, two := entryOf("a", 1), entryOf("b", 1)
	checkShadowed(t, stack(on(one), on(two)), []impl.Shadowed{shadow(1, 0, 1)}, true)
	checkShadowed(t, stack(on(one), on(one)), []impl.Shadowed{shadow(1, 0, 1)}, true)
	checkShadowed(t, stack(off(one), on(two)), nil, true)
	checkShadowed(t, stack(on(one), off(two)), nil, true)
	checkShadowed(t, stack(off(one), off(two)), nil, true)
	checkShadowed(t, stack(off(one), on(two), on(one)), []impl.Shadowed{shadow(2, 1, 1)}, true)
	checkShadowed(t, stack(off(one), on(two), off(one), on(one)), []impl.Shadowed{shadow(3, 1, 1)}, true)
}

// Each outline is shadowed by the layer that lookups find, not by the nearest one above it.
func TestEntriesThatAreShadowedByManyLayers(t *testing.T) {
	checkShadowed(t, alike(3), []impl.Shadowed{
		shadow(1, 0, 1), shadow(1, 0, 1, 2), shadow(1, 0, 3), shadow(2, 0, 1), shadow(2, 0, 1, 2), shadow(2, 0, 3),
	}, true)
	s := stack(on(entryOf("a", 3)), on(entryOf("b", 2), entryOf("b", 3)), on(entryOf("c", 1, 1), entryOf("c", 3)), on(entryOf("d", 1, 1), entryOf("d", 2), entryOf("d", 3), entryOf("d", 4)))
	checkShadowed(t, s, []impl.Shadowed{shadow(1, 0, 3), shadow(2, 0, 3), shadow(3, 2, 1, 1), shadow(3, 1, 2), shadow(3, 0, 3)}, true)
	checkStack(t, s)
	var all []impl.Shadowed
	for i := 1; i < 4; i++ {
		for _, e := range numbered(40).Entries {
			all = append(all, shadow(i, 0, e.Outline...))
		}
	}
	full := on(numbered(40).Entries...)
	checkShadowed(t, stack(full, full, full, full), all, true)
	checkReads(t, stack(full, full, full, full))
}

// Neither the layers nor the lengths of the outlines give the order.
func TestFlattenedEntriesAreInTheOrderOfOutlines(t *testing.T) {
	s := stack(on(entryOf("d", 2)), on(entryOf("c", 1, 9), entryOf("f", 1<<22)), on(entryOf("b", 1, 2, 3), entryOf("e", 2, 1)), on(entryOf("a", 1)))
	checkFlatten(t, s, dictionary(entryOf("a", 1), entryOf("b", 1, 2, 3), entryOf("c", 1, 9), entryOf("d", 2), entryOf("e", 2, 1), entryOf("f", 1<<22)), true)
	checkStack(t, s)
	backwards := stack(on(entryOf("same", 9)), on(entryOf("same", 8, 8)), on(entryOf("same", 8)), on(entryOf("same", 1, 2)))
	checkOutlinesFor(t, backwards, "same", [][]int{{1, 2}, {8}, {8, 8}, {9}}, true)
	checkStack(t, backwards)
}

func TestFlattenAtTheLimit(t *testing.T) {
	for layers := 2; layers <= 4; layers++ {
		for n := 38; n <= 40; n++ {
			checkFlatten(t, spread(n, layers), numbered(n), true)
			checkReads(t, spread(n, layers))
		}
		for _, n := range []int{41, 42, 43, 44, 60, 80} {
			checkFlatten(t, spread(n, layers), noDictionary, false)
			checkReads(t, spread(n, layers))
		}
	}
	checkReads(t, spread(160, 4))
	checkChanges(t, spread(160, 4))
	checkChanges(t, spread(120, 3))
}

// What counts are the outlines that are found, each of them once.
func TestHiddenAndDisabledEntriesDoNotCountForFlatten(t *testing.T) {
	full, more := numbered(40), dictionary(entryOf("new", 5))
	checkFlatten(t, stack(on(full.Entries...), on(full.Entries...), on(full.Entries...), on(full.Entries...)), full, true)
	checkFlatten(t, stack(on(full.Entries...), on(full.Entries[39])), full, true)
	checkFlatten(t, stack(on(full.Entries...), off(more.Entries...)), full, true)
	checkFlatten(t, stack(on(full.Entries...), on(more.Entries...)), noDictionary, false)
	checkFlatten(t, stack(on(more.Entries...), on(full.Entries...)), noDictionary, false)
	checkFlatten(t, stack(on(more.Entries...), off(full.Entries...)), more, true)
	checkFlatten(t, stack(on(full.Entries...), on(), on(more.Entries...)), noDictionary, false)
	s := stack(on(full.Entries[:39]...), on(full.Entries...), on(), off(more.Entries...))
	checkFlatten(t, s, full, true)
	checkFlatten(t, expectedSet(s, 3, true), noDictionary, false)
	checkReads(t, expectedSet(s, 3, true))
}

// OutlinesFor has no limit of its own: it finds more outlines than a dictionary has.
func TestOutlinesOfAStackThatCannotBeFlattened(t *testing.T) {
	var s impl.Stack
	var all [][]int
	for i := range 4 {
		var l impl.Layer
		l.Enabled = true
		for k := range 40 {
			o := []int{1 + k, 1 + i}
			l.Dict.Entries = append(l.Dict.Entries, entryOf("same", o...))
			all = append(all, o)
		}
		s.Layers = append(s.Layers, l)
	}
	slices.SortFunc(all, expectedOrder)
	checkOutlinesFor(t, s, "same", all, true)
	checkFlatten(t, s, noDictionary, false)
	checkReads(t, s)
}

func TestOutlinesForATextThatSeveralOutlinesHave(t *testing.T) {
	s := stack(on(entryOf("b", 2), entryOf("a", 9)), on(entryOf("a", 1), entryOf("a", 2), entryOf("a", 3)), off(entryOf("a", 4)), on(entryOf("a", 2, 1), entryOf("a", 9), entryOf("b", 9, 9)))
	checkOutlinesFor(t, s, "a", [][]int{{1}, {2, 1}, {3}, {9}}, true)
	checkOutlinesFor(t, s, "b", [][]int{{2}, {9, 9}}, true)
	checkStack(t, s)
	for _, text := range append([]string{"A", "a ", " a", "ab", "a b", "9", "S"}, invalidTexts...) {
		checkOutlinesFor(t, s, text, nil, true)
		checkOutlinesFor(t, noStack, text, nil, true)
	}
}

func TestOutlinesForATextThatOnlyAShadowedEntryHas(t *testing.T) {
	s := stack(on(entryOf("a", 1), entryOf("a", 2)), on(entryOf("b", 1), entryOf("b", 2)), on(entryOf("c", 1), entryOf("b", 2)))
	checkOutlinesFor(t, s, "b", nil, true)
	checkOutlinesFor(t, s, "c", nil, true)
	checkOutlinesFor(t, s, "a", [][]int{{1}, {2}}, true)
	checkOutlinesFor(t, expectedSet(s, 0, false), "b", [][]int{{1}, {2}}, true)
	checkOutlinesFor(t, expectedSet(s, 0, false), "c", nil, true)
	checkStack(t, s)
}

func TestOutlinesThatAreNotInAStack(t *testing.T) {
	s := stack(on(entryOf("a", 1, 2, 3)), on(entryOf("b", 4)), off(entryOf("c", 5)))
	for _, o := range [][]int{{1}, {1, 2}, {1, 2, 3, 4}, {2}, {3}, {2, 3}, {4, 4}, {5}, {6}, {4, 1}, {1, 2, 4}, {1, 3, 2}, {5, 4}, {largestStroke}} {
		checkFound(t, s, o, "", 0)
	}
	for _, o := range validOutlines() {
		checkFound(t, s, o, "", 0)
		checkFound(t, noStack, o, "", 0)
		checkFound(t, stack(on(), on(entryOf("a", o...))), o, "a", 1)
	}
}

// Each of these outlines begins with one that is there, or has the same lowest bits.
func TestInvalidOutlinesInAStack(t *testing.T) {
	long := entryOf("a", 1, 2, 3, 4, 5, 6)
	stacks := []impl.Stack{noStack, exampleStack(), alike(4), stack(on(long), on(entryOf("b", 2), entryOf("c", 2, 5), entryOf("d", largestStroke)))}
	almost := [][]int{{2, 0}, {0, 2}, {2, 5, 0}, {2, 0, 5}, {2, 0, 0, 0, 0, 0}, {2, 0, 0, 0, 0, 0, 0}, {1, 2, 3, 4, 5, 6, 7}, {1, 2, 3, 4, 5, 6, 0},
		{2 + 1<<23}, {2 + 1<<32}, {-2}, {1 + 1<<23}, {1, -2}, make([]int, 6), make([]int, 7)}
	for _, s := range stacks {
		for _, o := range append(almost, notOutlines()...) {
			checkFound(t, s, o, "", 0)
		}
	}
}

func TestMoveLayer(t *testing.T) {
	named := func(names string) impl.Stack {
		var s impl.Stack
		for _, name := range names {
			s.Layers = append(s.Layers, layer(name != 'b', entryOf(string(name), 1)))
		}
		return s
	}
	for _, move := range []struct {
		from, to int
		want     string
	}{
		{0, 0, "abcd"}, {1, 1, "abcd"}, {2, 2, "abcd"}, {3, 3, "abcd"}, {0, 1, "bacd"}, {0, 2, "bcad"}, {0, 3, "bcda"}, {1, 0, "bacd"},
		{1, 2, "acbd"}, {1, 3, "acdb"}, {2, 0, "cabd"}, {2, 1, "acbd"}, {2, 3, "abdc"}, {3, 0, "dabc"}, {3, 1, "adbc"}, {3, 2, "abdc"},
	} {
		checkMove(t, named("abcd"), move.from, move.to, named(move.want), true)
	}
	checkMove(t, named("a"), 0, 0, named("a"), true)
	checkMove(t, named("ab"), 0, 1, named("ba"), true)
	checkMove(t, named("ab"), 1, 0, named("ba"), true)
	checkMove(t, named("abc"), 0, 2, named("bca"), true)
	checkMove(t, named("abc"), 2, 0, named("cab"), true)
}

func TestPushLayer(t *testing.T) {
	d := dictionary(entryOf("new", 1), entryOf("new", 7, 7))
	for n := range 4 {
		for bits := range 1 << n {
			s := enabledAs(alike(n), bits)
			checkPush(t, s, d, stack(append([]impl.Layer{on(d.Entries...)}, s.Layers...)...), true)
			pushed, _ := impl.PushLayer(s, d)
			checkFound(t, pushed, []int{1}, "new", 0)
			checkFound(t, pushed, []int{7, 7}, "new", 0)
			checkRemove(t, pushed, 0, s, true)
			checkReads(t, pushed)
		}
	}
	for bits := range 16 {
		checkPush(t, enabledAs(alike(4), bits), d, noStack, false)
		checkPush(t, enabledAs(alike(4), bits), noDictionary, noStack, false)
	}
	for _, d := range []impl.Dictionary{noDictionary, numbered(1), numbered(40)} {
		checkPush(t, alike(3), d, stack(append([]impl.Layer{on(d.Entries...)}, alike(3).Layers...)...), true)
	}
}

func TestPushFromNoLayersToTheMost(t *testing.T) {
	s := noStack
	for i, text := range []string{"d", "c", "b", "a"} {
		d := dictionary(entryOf(text, 1))
		checkPush(t, s, d, stack(append([]impl.Layer{on(d.Entries...)}, s.Layers...)...), true)
		s, _ = impl.PushLayer(s, d)
		checkFound(t, s, []int{1}, text, 0)
		checkStack(t, s)
		if len(s.Layers) != i+1 {
			t.Fatal("layers", len(s.Layers))
		}
	}
	checkPush(t, s, dictionary(entryOf("e", 1)), noStack, false)
	removed, _ := impl.RemoveLayer(s, 2)
	checkPush(t, removed, dictionary(entryOf("e", 1)), stack(on(entryOf("e", 1)), on(entryOf("a", 1)), on(entryOf("b", 1)), on(entryOf("d", 1))), true)
}

func TestRemoveTheFirstTheLastAndTheOnlyLayer(t *testing.T) {
	s := stack(on(entryOf("a", 1)), off(entryOf("b", 1)), on(entryOf("c", 1)), on(entryOf("d", 1)))
	checkRemove(t, s, 0, stack(off(entryOf("b", 1)), on(entryOf("c", 1)), on(entryOf("d", 1))), true)
	checkRemove(t, s, 1, stack(on(entryOf("a", 1)), on(entryOf("c", 1)), on(entryOf("d", 1))), true)
	checkRemove(t, s, 3, stack(on(entryOf("a", 1)), off(entryOf("b", 1)), on(entryOf("c", 1))), true)
	checkRemove(t, stack(on(entryOf("a", 1))), 0, noStack, true)
	checkRemove(t, stack(off()), 0, noStack, true)
	for n := 4; n > 0; n-- {
		removed, ok := impl.RemoveLayer(alike(n), n-1)
		if !sameStack(removed, alike(n-1)) || !ok {
			t.Error("removed", shownStack(removed), ok)
		}
		checkStack(t, removed)
	}
}

func TestSetEnabledToWhatItIs(t *testing.T) {
	for bits := range 16 {
		s := enabledAs(alike(4), bits)
		for i, l := range s.Layers {
			checkSet(t, s, i, l.Enabled, s, true)
			changed, _ := impl.SetEnabled(s, i, !l.Enabled)
			checkSet(t, changed, i, l.Enabled, s, true)
		}
	}
}

func TestIndexesThatNoLayerHas(t *testing.T) {
	for n := range 5 {
		for _, i := range indexesAround(n) {
			if i < 0 || i >= n {
				checkNoLayer(t, alike(n), i)
				checkNoLayer(t, enabledAs(alike(n), 0), i)
			}
		}
	}
	checkMove(t, alike(4), -1, 4, noStack, false)
	checkMove(t, alike(4), 4, -1, noStack, false)
}

func TestMoreLayersThanMayBe(t *testing.T) {
	for n := 5; n <= 9; n++ {
		checkNoStack(t, alike(n))
		checkNoStack(t, enabledAs(alike(n), 0))
		checkNoStack(t, enabledAs(alike(n), 15))
		checkNoStack(t, stack(make([]impl.Layer, n)...))
		checkNoStack(t, stack(slices.Repeat([]impl.Layer{on()}, n)...))
	}
	checkNoStack(t, stack(make([]impl.Layer, 1<<12)...))
	checkNoStack(t, stack(slices.Repeat([]impl.Layer{on(numbered(2).Entries...)}, 1<<10)...))
}

func invalidDictionaries() []impl.Dictionary {
	return []impl.Dictionary{
		dict("-S", "a", "KAT", "b"), dict("S/S", "a", "S", "b"), dict("KAT", "cat", "KAT", "cat"), dict("KAT", "cat", "KAT", "dog"),
		dictionary(entryOf("a")), dictionary(entryOf("a", 0)), dictionary(entryOf("a", 1), entryOf("b", 1, 2, 3, 4, 5, 6, 7)), dictionary(entryOf("a", largestStroke+1)),
		dictionary(entryOf("a", -1)), dictionary(entryOf("a", 1), entryOf("", 2)), dictionary(entryOf("{", 1)), dictionary(impl.Entry{}), numbered(41), numbered(80), stairs(7),
	}
}

// The other layers are valid and would answer for an invalid one.
func TestAnInvalidDictionaryInALayer(t *testing.T) {
	for _, d := range invalidDictionaries() {
		for _, enabled := range []bool{true, false} {
			bad := layer(enabled, d.Entries...)
			checkNoStack(t, stack(bad))
			for n := 1; n <= 3; n++ {
				for i := range n + 1 {
					checkNoStack(t, stack(slices.Insert(alike(n).Layers, i, bad)...))
				}
			}
			checkNoStack(t, stack(bad, bad, bad, bad))
		}
	}
	for i := range 40 {
		d := numbered(40)
		d.Entries[i].Text = "{"
		checkIsStack(t, stack(on(), off(d.Entries...), on()), false)
		checkIsStack(t, stack(on(d.Entries...)), false)
	}
	for _, text := range invalidTexts {
		checkNoStack(t, stack(on(entryOf("a", 1)), off(entryOf(text, 2))))
	}
	for _, o := range notOutlines() {
		checkNoStack(t, stack(on(entryOf("a", 1)), off(entryOf("a", o...))))
	}
}

func TestAnInvalidDictionaryPushed(t *testing.T) {
	for _, d := range invalidDictionaries() {
		for n := range 5 {
			checkPush(t, alike(n), d, noStack, false)
		}
	}
	for _, text := range invalidTexts {
		checkPush(t, exampleStack(), dictionary(entryOf("a", 1), entryOf(text, 2)), noStack, false)
	}
	for _, o := range notOutlines() {
		checkPush(t, exampleStack(), dictionary(entryOf("a", o...)), noStack, false)
	}
	checkPush(t, stack(off(entryOf("{", 1))), numbered(3), noStack, false)
}

// layersOver lists all layers over two outlines, a prefix and a longer one, and two texts.
func layersOver() []impl.Layer {
	var all []impl.Layer
	for _, short := range []string{"", "a", "b"} {
		for _, long := range []string{"", "a", "b"} {
			var entries []impl.Entry
			if short != "" {
				entries = append(entries, entryOf(short, 1))
			}
			if long != "" {
				entries = append(entries, entryOf(long, 1, 2))
			}
			all = append(all, on(entries...), off(entries...))
		}
	}
	return all
}

func TestAllSmallStacks(t *testing.T) {
	few := layersOver()
	for _, a := range few {
		checkStack(t, stack(a))
		for _, b := range few {
			checkStack(t, stack(a, b))
			for _, c := range few {
				checkReads(t, stack(a, b, c))
			}
		}
	}
}

// randomLayer makes the outlines of layers meet.
func randomLayer(r *rand.Rand, n int) impl.Layer {
	return impl.Layer{Dict: randomDictionary(r, n), Enabled: r.Intn(4) > 0}
}

func randomStack(r *rand.Rand, layers, entries int) impl.Stack {
	var s impl.Stack
	for range layers {
		s.Layers = append(s.Layers, randomLayer(r, r.Intn(entries+1)))
	}
	return s
}

func TestRandomStacks(t *testing.T) {
	r := rand.New(rand.NewSource(8))
	flat, notFlat := 0, 0
	for i := range 300 {
		s := randomStack(r, i%5, []int{3, 8, 14, 25, 40}[r.Intn(5)])
		checkReads(t, s)
		if i%5 < 4 || i%3 == 0 {
			checkChanges(t, s)
		}
		if len(expectedFlat(s).Entries) > 40 {
			notFlat++
		} else {
			flat++
		}
	}
	if flat < 100 || notFlat < 20 {
		t.Error("the stacks do not try both sides of the limit", flat, notFlat)
	}
}

// Promise 8, with the functions of chapter 6 themselves on the other side.
func TestFlatteningPreservesEveryLookup(t *testing.T) {
	r := rand.New(rand.NewSource(88))
	outlines, hidden := listsOver([]int{1, 2, 3, 1 << 13, largestStroke}, 1), 0
	outlines = append(outlines, listsOver([]int{1, 2, 3, 1 << 13, largestStroke}, 2)...)
	for i := range 400 {
		s := randomStack(r, 1+i%4, 12)
		flat, ok := impl.Flatten(s)
		if !ok {
			continue
		}
		for _, o := range append(outlinesIn(s), outlines...) {
			text, found := impl.Lookup(flat, o)
			if got, _, ok := impl.LookupStack(s, o); got != text || ok != found {
				t.Fatal("disagree", shownStack(s), o, got, ok, text, found)
			}
			reverse, _ := impl.ReverseLookup(flat, text)
			if got, ok := impl.OutlinesFor(s, text); !ok || !slices.EqualFunc(got, reverse, slices.Equal[[]int]) {
				t.Fatal("disagree", shownStack(s), text, got, reverse)
			}
		}
		hidden += checkShadowedNeverReturned(t, s, flat)
	}
	if hidden < 200 {
		t.Error("too few shadowed entries", hidden)
	}
}

// checkShadowedNeverReturned removes the shadowed entries one after the other, which must change
// no lookup. Without them, no entry is shadowed any more.
func checkShadowedNeverReturned(t *testing.T, s impl.Stack, flat impl.Dictionary) int {
	t.Helper()
	shadowed, _ := impl.ShadowedEntries(s)
	for _, e := range shadowed {
		if _, i, ok := impl.LookupStack(s, e.Outline); !ok || i != e.By || i == e.Layer {
			t.Fatal("returned", shownStack(s), e, i, ok)
		}
		rest, ok := impl.Delete(s.Layers[e.Layer].Dict, e.Outline)
		if !ok {
			t.Fatal("not there", shownStack(s), e)
		}
		s = stack(slices.Clone(s.Layers)...)
		s.Layers[e.Layer].Dict = rest
		if after, ok := impl.Flatten(s); !ok || !sameEntries(after, flat) {
			t.Fatal("changed", shownStack(s), e, shownDictionary(after), shownDictionary(flat))
		}
	}
	checkShadowed(t, s, nil, true)
	return len(shadowed)
}

// An entry that is neither shadowed nor in a disabled layer is found.
func TestEveryOtherEntryIsFound(t *testing.T) {
	r := rand.New(rand.NewSource(888))
	for i := range 200 {
		s := randomStack(r, 1+i%4, 12)
		shadowed, _ := impl.ShadowedEntries(s)
		for k, l := range s.Layers {
			for _, e := range l.Dict.Entries {
				hidden := slices.ContainsFunc(shadowed, func(x impl.Shadowed) bool { return x.Layer == k && slices.Equal(x.Outline, e.Outline) })
				text, at, ok := impl.LookupStack(s, e.Outline)
				if found := ok && at == k; found != (l.Enabled && !hidden) || found && text != e.Text {
					t.Fatal("not found", shownStack(s), k, e, text, at, ok)
				}
			}
		}
	}
}

// The stack of the program is compared with one that is put together anew at every step.
func TestRandomChangesOfAStack(t *testing.T) {
	r := rand.New(rand.NewSource(8888))
	s := noStack
	for range 1500 {
		n := len(s.Layers)
		i, k := r.Intn(max(n, 1)), r.Intn(max(n, 1))
		want := s
		switch kind := r.Intn(5); {
		case n == 0 || kind == 0 && n < 4:
			d := randomDictionary(r, r.Intn(6))
			want = stack(append([]impl.Layer{on(d.Entries...)}, s.Layers...)...)
			s, _ = impl.PushLayer(s, d)
		case kind <= 1:
			want = expectedMove(s, i, k)
			s, _ = impl.MoveLayer(s, i, k)
		case kind == 2 && r.Intn(2) == 0:
			want = expectedRemove(s, i)
			s, _ = impl.RemoveLayer(s, i)
		default:
			want = expectedSet(s, i, k%2 == 0)
			s, _ = impl.SetEnabled(s, i, k%2 == 0)
		}
		if !sameStack(s, want) {
			t.Fatal("changed to", shownStack(s), shownStack(want))
		}
		checkReads(t, s)
	}
}

// All layers of the argument have the same entries in the same memory, and so has what is pushed;
// the layers of the results must not.
func TestArgumentsWhoseLayersShareMemory(t *testing.T) {
	o := []int{1, 2, 3, 4, 5, 6}
	d := dictionary(entryOf("a", o[:1]...), entryOf("a", o[:3]...), entryOf("a", o...), entryOf("a", o[1:3]...), entryOf("a", o[2:3]...))
	l := impl.Layer{Dict: d, Enabled: true}
	three, four := stack(l, l, l), stack(l, l, l, l)
	pushed, _ := impl.PushLayer(three, d)
	disabled, _ := impl.SetEnabled(four, 1, true)
	moved, _ := impl.MoveLayer(four, 0, 3)
	stayed, _ := impl.MoveLayer(four, 2, 2)
	removed, _ := impl.RemoveLayer(stack(l, l, l, l), 0)
	for _, result := range []impl.Stack{pushed, disabled, moved, stayed} {
		if !sameStack(result, four) {
			t.Error("not the same layers", shownStack(result))
		}
	}
	if !sameStack(removed, three) {
		t.Error("not the same layers", shownStack(removed))
	}
	for _, result := range []impl.Stack{pushed, disabled, moved, stayed, removed} {
		overwriteStack(t, "a change of a stack", result)
	}
	shadowed, _ := impl.ShadowedEntries(four)
	overwriteShadowed(t, "ShadowedEntries", shadowed)
	flat, _ := impl.Flatten(four)
	overwriteDictionary(t, "Flatten", flat)
	outlines, _ := impl.OutlinesFor(four, "a")
	overwrite(t, "OutlinesFor", outlines)
	checkStrokes(t, o, 1, 2, 3, 4, 5, 6)
	checkReads(t, three)
	checkReads(t, four)
}

// Neither of two results shares memory with the other.
func TestStacksChangedTwiceAreNewMemory(t *testing.T) {
	s := exampleStack()
	first, _ := impl.SetEnabled(s, 1, true)
	second, _ := impl.SetEnabled(s, 1, true)
	overwriteStack(t, "SetEnabled", first)
	if !sameStack(second, exampleStack()) || !sameStack(s, exampleStack()) {
		t.Error("shared", shownStack(second), shownStack(s))
	}
	one, _ := impl.ShadowedEntries(alike(4))
	two, _ := impl.ShadowedEntries(alike(4))
	overwriteShadowed(t, "ShadowedEntries", append(one, two...))
	some, _ := impl.OutlinesFor(s, "b")
	others, _ := impl.OutlinesFor(s, "b")
	overwrite(t, "OutlinesFor", append(some, others...))
	flat, _ := impl.Flatten(s)
	again, _ := impl.Flatten(s)
	overwriteDictionary(t, "Flatten", flat)
	if !sameEntries(again, dictionary(entryOf("a", 1), entryOf("b", 2))) || !sameStack(s, exampleStack()) {
		t.Error("shared", shownDictionary(again), shownStack(s))
	}
}
