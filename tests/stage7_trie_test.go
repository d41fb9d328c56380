package tests

import (
	"fmt"
	"math/rand"
	"slices"
	"strings"
	"testing"

	"loop.example/g00882/impl"
)

// Promise 7: the trie of a dictionary contains exactly its entries, and trie operations agree
// with dictionary operations. Promise 26, for chapter 7: every function returns for all arguments
// and modifies none of them.

var noTrie impl.Trie

func trie(nodes ...impl.TrieNode) impl.Trie { return impl.Trie{Nodes: nodes} }

// node has a Text unless text is empty; its strokes and children are in turn.
func node(text string, pairs ...int) impl.TrieNode {
	n := impl.TrieNode{HasText: text != "", Text: text}
	for i := 0; i < len(pairs); i += 2 {
		n.Strokes, n.Children = append(n.Strokes, pairs[i]), append(n.Children, pairs[i+1])
	}
	return n
}

// prefixesOf lists the outlines of d and all of their prefixes, the empty one too. In digits,
// their order is the depth-first preorder, so that each one's index is the number of its node.
func prefixesOf(d impl.Dictionary) [][]int {
	all := [][]int{{}}
	for _, e := range d.Entries {
		for n := range e.Outline {
			all = append(all, slices.Clone(e.Outline[:n+1]))
		}
	}
	slices.SortFunc(all, expectedOrder)
	return slices.CompactFunc(all, slices.Equal[[]int])
}

func expectedTrie(d impl.Dictionary) impl.Trie {
	var t impl.Trie
	all := prefixesOf(d)
	for _, o := range all {
		n := node(expectedLookup(d, o))
		for i, longer := range all {
			if len(longer) == len(o)+1 && slices.Equal(longer[:len(o)], o) {
				n.Strokes, n.Children = append(n.Strokes, longer[len(o)]), append(n.Children, i)
			}
		}
		t.Nodes = append(t.Nodes, n)
	}
	return t
}

// expectedEntries gives every node the strokes of the first node that has it as a child, and
// those that lead to it. Of a trie that is none it may return anything.
func expectedEntries(t impl.Trie) impl.Dictionary {
	var d impl.Dictionary
	ways := make([][]int, len(t.Nodes))
	for i, n := range t.Nodes {
		if n.HasText {
			d.Entries = append(d.Entries, entryOf(n.Text, ways[i]...))
		}
		for k, child := range n.Children {
			if k < len(n.Strokes) && child > i && child < len(t.Nodes) && ways[child] == nil {
				ways[child] = append(slices.Clone(ways[i]), n.Strokes[k])
			}
		}
	}
	return d
}

func expectedIsTrie(t impl.Trie) bool {
	d := expectedEntries(t)
	return len(t.Nodes) > 0 && expectedDictionary(d) && sameTrie(expectedTrie(d), t)
}

// expectedPrefix tries the outlines one after the other.
func expectedPrefix(d impl.Dictionary, strokes []int) (int, string) {
	length, text := 0, ""
	for _, e := range d.Entries {
		if n := len(e.Outline); n > length && n <= len(strokes) && slices.Equal(strokes[:n], e.Outline) {
			length, text = n, e.Text
		}
	}
	return length, text
}

func sameTrie(a, b impl.Trie) bool {
	return slices.EqualFunc(a.Nodes, b.Nodes, func(m, n impl.TrieNode) bool {
		return m.HasText == n.HasText && m.Text == n.Text && slices.Equal(m.Strokes, n.Strokes) && slices.Equal(m.Children, n.Children)
	})
}

// shownTrie spares the reader most of the largest tries.
func shownTrie(t impl.Trie) string {
	text := fmt.Sprint(len(t.Nodes), " nodes:")
	for i, n := range t.Nodes[:min(len(t.Nodes), 12)] {
		text += fmt.Sprintf(" %d: %s to %s %v %.60q;", i, shown(n.Strokes), shown(n.Children), n.HasText, n.Text)
	}
	return text
}

// cloneTrie leaves room behind the last node and in every list, so that what is read or written
// there shows too.
func cloneTrie(t impl.Trie) impl.Trie {
	all := append(slices.Clone(t.Nodes), node("behind"), node("behind", 2, 1), node(""))
	for i := range all {
		all[i].Strokes, all[i].Children = lend(all[i].Strokes).outline, lend(all[i].Children).outline
	}
	return trie(all[:len(t.Nodes)]...)
}

// memoryOfTrie copies all nodes and lists, what is in the room included.
func memoryOfTrie(t impl.Trie) impl.Trie {
	all := slices.Clone(t.Nodes[:cap(t.Nodes)])
	for i, n := range all {
		all[i].Strokes = slices.Clone(n.Strokes[:cap(n.Strokes)])
		all[i].Children = slices.Clone(n.Children[:cap(n.Children)])
	}
	return trie(all...)
}

func withTrie(t *testing.T, name string, tr impl.Trie, f func(tr impl.Trie)) {
	t.Helper()
	tr = cloneTrie(tr)
	before := memoryOfTrie(tr)
	f(tr)
	if after := memoryOfTrie(tr); !sameTrie(after, before) {
		t.Fatalf("%s changed %s to %s", name, shownTrie(before), shownTrie(after))
	}
}

// overwriteTrie shows, see overwrite, lists of nodes that share memory with each other.
func overwriteTrie(t *testing.T, name string, tr impl.Trie) {
	t.Helper()
	var lists [][]int
	for _, n := range tr.Nodes {
		lists = append(lists, n.Strokes, n.Children)
	}
	overwrite(t, name, lists)
	for i := range cap(tr.Nodes) {
		tr.Nodes[:cap(tr.Nodes)][i] = node("overwritten", -100, -100)
	}
}

func checkIsTrie(t *testing.T, tr impl.Trie, want bool) {
	t.Helper()
	withTrie(t, "IsValidTrie", tr, func(tr impl.Trie) {
		if got := impl.IsValidTrie(tr); got != want {
			t.Errorf("IsValidTrie(%s) = %v", shownTrie(tr), got)
		}
	})
}

func checkBuild(t *testing.T, d impl.Dictionary, want impl.Trie, wantOK bool) {
	t.Helper()
	withDictionary(t, "BuildTrie", d, func(d impl.Dictionary) {
		got, ok := impl.BuildTrie(d)
		if !sameTrie(got, want) || ok != wantOK {
			t.Errorf("BuildTrie(%s) = %s, %v; want %s", shownDictionary(d), shownTrie(got), ok, shownTrie(want))
		}
		overwriteTrie(t, "BuildTrie", got)
	})
}

func checkWalk(t *testing.T, tr impl.Trie, strokes []int, want int, wantOK bool) {
	t.Helper()
	withTrie(t, "WalkTrie", tr, func(tr impl.Trie) {
		l := lend(strokes)
		if got, ok := impl.WalkTrie(tr, l.outline); got != want || ok != wantOK {
			t.Errorf("WalkTrie(%s, %s) = %d, %v; want %d, %v", shownTrie(tr), shown(strokes), got, ok, want, wantOK)
		}
		checkUnchanged(t, "WalkTrie", l)
	})
}

// checkLookupTrie expects a failure if want is empty.
func checkLookupTrie(t *testing.T, tr impl.Trie, o []int, want string) {
	t.Helper()
	withTrie(t, "LookupTrie", tr, func(tr impl.Trie) {
		l := lend(o)
		if got, ok := impl.LookupTrie(tr, l.outline); got != want || ok != (want != "") {
			t.Errorf("LookupTrie(%s, %s) = %.60q, %v; want %q", shownTrie(tr), shown(o), got, ok, want)
		}
		checkUnchanged(t, "LookupTrie", l)
	})
}

// checkPrefix expects a failure if wantText is empty.
func checkPrefix(t *testing.T, tr impl.Trie, strokes []int, want int, wantText string) {
	t.Helper()
	withTrie(t, "LongestPrefix", tr, func(tr impl.Trie) {
		l := lend(strokes)
		if got, text, ok := impl.LongestPrefix(tr, l.outline); got != want || text != wantText || ok != (wantText != "") {
			t.Errorf("LongestPrefix(%s, %s) = %d, %.60q, %v; want %d, %q", shownTrie(tr), shown(strokes), got, text, ok, want, wantText)
		}
		checkUnchanged(t, "LongestPrefix", l)
	})
}

func checkInsertTrie(t *testing.T, tr impl.Trie, e impl.Entry, want impl.Trie, wantOK bool) {
	t.Helper()
	withTrie(t, "InsertTrie", tr, func(tr impl.Trie) {
		l := lend(e.Outline)
		got, ok := impl.InsertTrie(tr, entryOf(e.Text, l.outline...))
		if !sameTrie(got, want) || ok != wantOK {
			t.Errorf("InsertTrie(%s, %s, %.60q) = %s, %v; want %s", shownTrie(tr), shown(e.Outline), e.Text, shownTrie(got), ok, shownTrie(want))
		}
		overwriteTrie(t, "InsertTrie", got)
		checkUnchanged(t, "InsertTrie", l)
	})
}

func checkDeleteTrie(t *testing.T, tr impl.Trie, o []int, want impl.Trie, wantOK bool) {
	t.Helper()
	withTrie(t, "DeleteTrie", tr, func(tr impl.Trie) {
		l := lend(o)
		got, ok := impl.DeleteTrie(tr, l.outline)
		if !sameTrie(got, want) || ok != wantOK {
			t.Errorf("DeleteTrie(%s, %s) = %s, %v; want %s", shownTrie(tr), shown(o), shownTrie(got), ok, shownTrie(want))
		}
		overwriteTrie(t, "DeleteTrie", got)
		checkUnchanged(t, "DeleteTrie", l)
	})
}

func checkTrieEntries(t *testing.T, tr impl.Trie, want impl.Dictionary, wantOK bool) {
	t.Helper()
	withTrie(t, "TrieEntries", tr, func(tr impl.Trie) {
		got, ok := impl.TrieEntries(tr)
		if !sameEntries(got, want) || ok != wantOK {
			t.Errorf("TrieEntries(%s) = %s, %v; want %s", shownTrie(tr), shownDictionary(got), ok, shownDictionary(want))
		}
		overwriteDictionary(t, "TrieEntries", got)
	})
}

func checkContinuations(t *testing.T, tr impl.Trie, number int, want []int, wantOK bool) {
	t.Helper()
	withTrie(t, "Continuations", tr, func(tr impl.Trie) {
		got, ok := impl.Continuations(tr, number)
		if !slices.Equal(got, want) || ok != wantOK {
			t.Errorf("Continuations(%s, %d) = %v, %v; want %v, %v", shownTrie(tr), number, got, ok, want, wantOK)
		}
		overwrite(t, "Continuations", [][]int{got})
	})
}

var notNodes = []int{-1, -2, -241, -1 << 31, -1 << 63, 1 << 31, 1 << 32, 1<<63 - 1}

// checkTrieOf asks all functions that change nothing about the trie of d, and about every prefix.
func checkTrieOf(t *testing.T, d impl.Dictionary) {
	t.Helper()
	tr := expectedTrie(d)
	checkBuild(t, d, tr, true)
	checkIsTrie(t, tr, true)
	checkTrieEntries(t, tr, d, true)
	for number, o := range prefixesOf(d) {
		length, text := expectedPrefix(d, o)
		checkWalk(t, tr, o, number, true)
		checkLookupTrie(t, tr, o, expectedLookup(d, o))
		checkPrefix(t, tr, o, length, text)
		checkContinuations(t, tr, number, tr.Nodes[number].Strokes, true)
	}
	for _, number := range append([]int{len(tr.Nodes), len(tr.Nodes) + 1}, notNodes...) {
		checkContinuations(t, tr, number, nil, false)
	}
}

// checkNoTrie also asks for what the trie would hold.
func checkNoTrie(t *testing.T, tr impl.Trie) {
	t.Helper()
	checkIsTrie(t, tr, false)
	checkTrieEntries(t, tr, noDictionary, false)
	for _, number := range []int{0, 1, len(tr.Nodes) - 1, len(tr.Nodes), -1} {
		checkContinuations(t, tr, number, nil, false)
	}
	for _, o := range [][]int{{}, {1}, {2}, {3}, {1, 2}, {1, 2, 3}, {7, 7, 7}, {1, 2, 3, 4, 5, 6}, {10}, {20, 1}, {largestStroke}} {
		checkWalk(t, tr, o, 0, false)
		checkLookupTrie(t, tr, o, "")
		checkPrefix(t, tr, o, 0, "")
		checkInsertTrie(t, tr, entryOf("new", o...), noTrie, false)
		checkDeleteTrie(t, tr, o, noTrie, false)
	}
}

// checkInto inserts e into the trie of d and deletes it there, which must agree with what the
// second reading of chapter 6 does.
func checkInto(t *testing.T, d impl.Dictionary, e impl.Entry) {
	t.Helper()
	tr, after, rest := expectedTrie(d), with(d, e), without(d, e.Outline)
	if len(after.Entries) > 40 {
		checkInsertTrie(t, tr, e, noTrie, false)
	} else {
		checkInsertTrie(t, tr, e, expectedTrie(after), true)
		checkDeleteTrie(t, expectedTrie(after), e.Outline, expectedTrie(rest), true)
	}
	if len(rest.Entries) < len(d.Entries) {
		checkDeleteTrie(t, tr, e.Outline, expectedTrie(rest), true)
	} else {
		checkDeleteTrie(t, tr, e.Outline, noTrie, false)
	}
}

func exampleEntries() impl.Dictionary {
	return dictionary(entryOf("a", 1), entryOf("ab", 1, 2), entryOf("c", 3))
}

func exampleTrie() impl.Trie {
	return trie(node("", 1, 1, 3, 3), node("a", 2, 2), node("ab"), node("c"))
}

// fullest returns 40 entries of six strokes that have no stroke in common.
func fullest() impl.Dictionary {
	var d impl.Dictionary
	for i := range 40 {
		d.Entries = append(d.Entries, entryOf(fmt.Sprint("w", i), 10*i+10, 1, 2, 3, 2, 1))
	}
	return d
}

// stairs has n outlines of 1 to n strokes, which are prefixes of each other.
func stairs(n int) impl.Dictionary {
	var d impl.Dictionary
	for i := range n {
		d.Entries = append(d.Entries, entryOf(fmt.Sprint("p", i), []int{1, 2, 3, 4, 5, 6, 7, 8}[:i+1]...))
	}
	return d
}

func TestConstantOfChapter7(t *testing.T) {
	if impl.MaxTrieNodes != 241 {
		t.Error("nodes", impl.MaxTrieNodes)
	}
}

func TestTheTrieOfTheExamples(t *testing.T) {
	checkBuild(t, exampleEntries(), exampleTrie(), true)
	tr := exampleTrie()
	checkIsTrie(t, tr, true)
	checkWalk(t, tr, []int{1, 2}, 2, true)
	checkWalk(t, tr, []int{2}, 0, false)
	checkLookupTrie(t, tr, []int{1, 2}, "ab")
	checkPrefix(t, tr, []int{1, 2, 3}, 2, "ab")
	checkPrefix(t, tr, []int{1, 3}, 1, "a")
	checkDeleteTrie(t, tr, []int{1}, trie(node("", 1, 1, 3, 3), node("", 2, 2), node("ab"), node("c")), true)
	checkContinuations(t, tr, 1, []int{2}, true)
	checkTrieEntries(t, tr, exampleEntries(), true)
	checkTrieOf(t, exampleEntries())
}

func TestMoreOfTheTrieOfTheExamples(t *testing.T) {
	tr := exampleTrie()
	checkDeleteTrie(t, tr, []int{1, 2}, trie(node("", 1, 1, 3, 2), node("a"), node("c")), true)
	checkDeleteTrie(t, tr, []int{3}, trie(node("", 1, 1), node("a", 2, 2), node("ab")), true)
	checkInsertTrie(t, tr, entryOf("b", 2), trie(node("", 1, 1, 2, 3, 3, 4), node("a", 2, 2), node("ab"), node("b"), node("c")), true)
	checkInsertTrie(t, tr, entryOf("x", 1, 2), trie(node("", 1, 1, 3, 3), node("a", 2, 2), node("x"), node("c")), true)
	checkInsertTrie(t, tr, entryOf("x", 1, 1, 9), trie(node("", 1, 1, 3, 5), node("a", 1, 2, 2, 4), node("", 9, 3), node("x"), node("ab"), node("c")), true)
	for number, want := range [][]int{{1, 3}, {2}, {}, {}} {
		checkContinuations(t, tr, number, want, true)
	}
	checkPrefix(t, tr, []int{3, 1}, 1, "c")
	checkPrefix(t, tr, []int{2, 1}, 0, "")
}

func TestTheTrieOfTheEmptyDictionary(t *testing.T) {
	root := trie(impl.TrieNode{})
	checkTrieOf(t, noDictionary)
	checkBuild(t, noDictionary, root, true)
	checkWalk(t, root, nil, 0, true)
	checkWalk(t, root, []int{1}, 0, false)
	checkLookupTrie(t, root, []int{1}, "")
	checkPrefix(t, root, []int{1}, 0, "")
	checkContinuations(t, root, 0, nil, true)
	checkContinuations(t, root, 1, nil, false)
	checkInsertTrie(t, root, entryOf("a", 1), trie(node("", 1, 1), node("a")), true)
	checkInsertTrie(t, root, entryOf("a", 5, 5), trie(node("", 5, 1), node("", 5, 2), node("a")), true)
	checkDeleteTrie(t, root, []int{1}, noTrie, false)
	checkDeleteTrie(t, trie(node("", 1, 1), node("a")), []int{1}, root, true)
	checkDeleteTrie(t, expectedTrie(dictionary(entryOf("a", 1, 2, 3, 4, 5, 6))), []int{1, 2, 3, 4, 5, 6}, root, true)
}

// Here the trie itself is handed over, with nil and with empty slices.
func TestEmptyListsOfATrie(t *testing.T) {
	for _, tr := range []impl.Trie{trie(impl.TrieNode{}), trie(impl.TrieNode{Strokes: []int{}, Children: []int{}}), trie(impl.TrieNode{Strokes: []int{}})} {
		after, ok := impl.InsertTrie(tr, entryOf("a", 1))
		if !impl.IsValidTrie(tr) || !ok || !sameTrie(after, trie(node("", 1, 1), node("a"))) {
			t.Error("not the empty dictionary", shownTrie(tr), shownTrie(after))
		}
		if d, ok := impl.TrieEntries(tr); len(d.Entries) != 0 || !ok {
			t.Error("entries", d, ok)
		}
		if l, ok := impl.Continuations(tr, 0); len(l) != 0 || !ok {
			t.Error("continuations", l, ok)
		}
	}
	if impl.IsValidTrie(impl.Trie{Nodes: []impl.TrieNode{}}) || impl.IsValidTrie(exampleTrieCut(0)) {
		t.Error("no nodes")
	}
	if d, ok := impl.BuildTrie(dictionary()); len(d.Nodes) != 1 || !ok {
		t.Error("no entries", d, ok)
	}
}

func exampleTrieCut(n int) impl.Trie { return trie(exampleTrie().Nodes[:n]...) }

func TestTries(t *testing.T) {
	for n := range 41 {
		checkTrieOf(t, numbered(n))
	}
	for n := 1; n <= 6; n++ {
		checkTrieOf(t, stairs(n))
		checkTrieOf(t, dictionary(stairs(n).Entries[n-1]))
	}
	checkTrieOf(t, dict("#", "a", "KAT", "cat", "KAT/-S", "cat {^s}", "-S", "{^s}", "-Z", "{.} {-|}"))
	checkTrieOf(t, dict("S/S/S", "a", "S/S/T", "b", "S/T/S", "c", "S/T/T", "d", "T/S/S", "e", "T/S/T", "f", "T/T/S", "g", "T/T/T", "h"))
	for _, text := range validTexts {
		checkTrieOf(t, dictionary(entryOf(text, 2), entryOf(text, 2, 1), entryOf(text, largestStroke)))
	}
}

// One or two outlines of each kind: equal up to a stroke, prefixes of each other, or neither.
func TestTriesOfAllPairsOfOutlines(t *testing.T) {
	var outlines [][]int
	for _, o := range validOutlines() {
		if len(o) != 3 || o[0] == 2 && o[1] == 2 {
			outlines = append(outlines, o)
		}
	}
	for i, o := range outlines {
		checkTrieOf(t, dictionary(entryOf("a", o...)))
		for _, p := range outlines[:i] {
			checkTrieOf(t, with(dictionary(entryOf("a", o...)), entryOf("b", p...)))
		}
	}
}

func TestAnOutlineThatIsAPrefixOfAnother(t *testing.T) {
	for n := 2; n <= 6; n++ {
		long := stairs(n).Entries[n-1]
		for _, short := range stairs(n - 1).Entries {
			both, alone := expectedTrie(dictionary(short, long)), expectedTrie(dictionary(short))
			checkInsertTrie(t, alone, long, both, true)
			checkInsertTrie(t, expectedTrie(dictionary(long)), short, both, true)
			checkLookupTrie(t, both, short.Outline, short.Text)
			checkLookupTrie(t, both, long.Outline, long.Text)
			checkDeleteTrie(t, both, short.Outline, expectedTrie(dictionary(long)), true)
			checkDeleteTrie(t, both, long.Outline, alone, true)
			checkLookupTrie(t, alone, long.Outline, "")
			checkLookupTrie(t, expectedTrie(dictionary(long)), short.Outline, "")
			checkDeleteTrie(t, alone, long.Outline, noTrie, false)
			checkDeleteTrie(t, expectedTrie(dictionary(long)), short.Outline, noTrie, false)
		}
	}
}

// All prefixes of an outline, in each of several orders.
func TestManyPrefixesInATrie(t *testing.T) {
	o := []int{7, 7, 9, 7, 1, largestStroke}
	r := rand.New(rand.NewSource(7))
	for range 30 {
		var d impl.Dictionary
		for _, n := range r.Perm(6) {
			checkInto(t, d, entryOf(fmt.Sprint("p", n), o[:n+1]...))
			d = with(d, entryOf(fmt.Sprint("p", n), o[:n+1]...))
			checkTrieOf(t, d)
		}
		for _, n := range r.Perm(6) {
			checkInto(t, d, entryOf("x", o[:n+1]...))
			d = without(d, o[:n+1])
			checkTrieOf(t, d)
		}
	}
}

func TestTheLargestTrie(t *testing.T) {
	d := fullest()
	if n := len(expectedTrie(d).Nodes); n != 241 {
		t.Fatal("not what the test needs", n)
	}
	checkTrieOf(t, d)
	for i := range d.Entries {
		d.Entries[i].Outline[0] = largestStroke - 40 + i
		d.Entries[i].Text = notationsOf(wordsOfTotal(4, 60))
	}
	checkTrieOf(t, d)
}

func TestInsertIntoAFullTrie(t *testing.T) {
	for _, full := range []impl.Dictionary{numbered(40), fullest()} {
		for _, o := range [][]int{{1}, {9}, {10}, {10, 1}, {10, 1, 2, 3, 2}, {10, 1, 2, 3, 2, 2}, {205}, {400, 1, 2}, {401}, {largestStroke}} {
			if expectedLookup(full, o) == "" {
				checkInsertTrie(t, expectedTrie(full), entryOf("new", o...), noTrie, false)
			}
		}
		for _, e := range full.Entries {
			checkInto(t, full, e)
			checkInto(t, full, entryOf("replaced {^s}", e.Outline...))
			checkInsertTrie(t, expectedTrie(full), entryOf("{", e.Outline...), noTrie, false)
			checkInto(t, without(full, e.Outline), entryOf("new", 5, 5, 5, 5, 5, 5))
			checkInto(t, without(full, e.Outline), entryOf("new", e.Outline[0]))
		}
	}
}

func TestStrokeListsThatLeadThroughATrie(t *testing.T) {
	tr := expectedTrie(dictionary(entryOf("a", 1, 2), entryOf("b", 1, 2, 3, 4), entryOf("c", 1, 5), entryOf("d", 9, 9, 9)))
	checkWalk(t, tr, nil, 0, true)
	checkWalk(t, tr, []int{}, 0, true)
	for number, o := range [][]int{{}, {1}, {1, 2}, {1, 2, 3}, {1, 2, 3, 4}, {1, 5}, {9}, {9, 9}, {9, 9, 9}} {
		checkWalk(t, tr, o, number, true)
	}
	for _, o := range [][]int{{2}, {5}, {8}, {10}, {1, 1}, {1, 3}, {1, 4}, {1, 6}, {2, 1}, {9, 1}, {1, 9}, {9, 9, 9, 9}, {1, 2, 3, 4, 5}, {1, 2, 4}, {1, 5, 5}, {1, 5, 3, 4}} {
		checkWalk(t, tr, o, 0, false)
		checkLookupTrie(t, tr, o, "")
	}
	for _, o := range [][]int{nil, {1}, {1, 2, 3}, {9}, {9, 9}} {
		checkLookupTrie(t, tr, o, "")
		checkDeleteTrie(t, tr, o, noTrie, false)
	}
}

func TestTheLongestPrefix(t *testing.T) {
	all := []int{1, 2, 3, 4, 5, 6, 7, 8}
	for n := 1; n <= 6; n++ {
		tr := expectedTrie(stairs(n))
		for m := range all {
			want := min(n, m)
			text := ""
			if want > 0 {
				text = fmt.Sprint("p", want-1)
			}
			checkPrefix(t, tr, all[:m], want, text)
			checkPrefix(t, tr, append(slices.Clone(all[:m]), 99), want, text)
			checkPrefix(t, tr, append([]int{99}, all[:m]...), 0, "")
		}
	}
	tr := expectedTrie(dictionary(entryOf("a", 1, 2), entryOf("b", 1, 2, 3, 4, 5), entryOf("c", 2, 3), entryOf("d", 4)))
	checkPrefix(t, tr, []int{1}, 0, "")
	checkPrefix(t, tr, []int{1, 3, 2}, 0, "")
	checkPrefix(t, tr, []int{1, 2}, 2, "a")
	checkPrefix(t, tr, []int{1, 2, 3, 4}, 2, "a")
	checkPrefix(t, tr, []int{1, 2, 3, 4, 4}, 2, "a")
	checkPrefix(t, tr, []int{1, 2, 3, 4, 5, 6}, 5, "b")
	checkPrefix(t, tr, []int{2, 2, 3}, 0, "")
	checkPrefix(t, tr, []int{4, 1, 2}, 1, "d")
	checkPrefix(t, tr, nil, 0, "")
}

func TestStrokeListsAtTheLimit(t *testing.T) {
	tr := expectedTrie(stairs(6))
	sixty := append([]int{1, 2, 3, 4, 5, 6}, slices.Repeat([]int{largestStroke}, 54)...)
	for n := 7; n <= 60; n++ {
		checkPrefix(t, tr, sixty[:n], 6, "p5")
		checkWalk(t, tr, sixty[:n], 0, false)
		checkLookupTrie(t, tr, sixty[:n], "")
		checkPrefix(t, tr, append([]int{7}, sixty[:n-1]...), 0, "")
	}
	for _, n := range []int{1, 2, 5, 60, 1 << 16} {
		long := append(slices.Clone(sixty), slices.Repeat([]int{2}, n)...)
		checkPrefix(t, tr, long, 0, "")
		checkWalk(t, tr, long, 0, false)
		checkLookupTrie(t, tr, long, "")
	}
}

func TestInvalidStrokesInStrokeLists(t *testing.T) {
	for _, d := range []impl.Dictionary{stairs(6), noDictionary, exampleEntries()} {
		tr := expectedTrie(d)
		for _, s := range notStrokes {
			for _, l := range [][]int{{s}, {1, s}, {1, 2, s}, {s, 1}, {1, s, 2}, {2, s}, {1, 2, 3, 4, 5, 6, s}, {1, 9, s}, append(slices.Repeat([]int{1}, 59), s)} {
				checkWalk(t, tr, l, 0, false)
				checkPrefix(t, tr, l, 0, "")
				checkLookupTrie(t, tr, l, "")
				checkDeleteTrie(t, tr, l, noTrie, false)
				checkInsertTrie(t, tr, entryOf("a", l...), noTrie, false)
			}
		}
	}
}

func TestInvalidEntriesAndOutlinesForATrie(t *testing.T) {
	for _, d := range []impl.Dictionary{stairs(6), noDictionary, exampleEntries(), fullest()} {
		tr := expectedTrie(d)
		for _, o := range notOutlines() {
			checkInsertTrie(t, tr, entryOf("a", o...), noTrie, false)
			checkDeleteTrie(t, tr, o, noTrie, false)
			checkLookupTrie(t, tr, o, "")
		}
		for _, text := range invalidTexts {
			checkInsertTrie(t, tr, entryOf(text, 1), noTrie, false)
			checkInsertTrie(t, tr, entryOf(text, 1, 2), noTrie, false)
			checkInsertTrie(t, tr, entryOf(text, 99), noTrie, false)
		}
	}
}

func TestInvalidDictionariesHaveNoTrie(t *testing.T) {
	for _, d := range []impl.Dictionary{
		dict("-S", "a", "KAT", "b"), dict("S/S", "a", "S", "b"), dict("KAT", "cat", "KAT", "cat"), dict("KAT", "cat", "KAT", "dog"),
		dictionary(entryOf("a")), dictionary(entryOf("a", 0)), dictionary(entryOf("a", 1, 2, 3, 4, 5, 6, 7)), dictionary(entryOf("a", largestStroke+1)),
		dictionary(entryOf("", 1)), dictionary(entryOf("{", 1)), dictionary(impl.Entry{}), numbered(41), numbered(80), stairs(7),
	} {
		checkBuild(t, d, noTrie, false)
	}
	for i := range 40 {
		d := numbered(40)
		d.Entries[i].Text = "{"
		checkBuild(t, d, noTrie, false)
		d = numbered(40)
		d.Entries[i].Outline = append(d.Entries[i].Outline, 0)
		checkBuild(t, d, noTrie, false)
	}
	for _, text := range invalidTexts {
		checkBuild(t, dictionary(entryOf("a", 1), entryOf(text, 2)), noTrie, false)
	}
	for _, o := range notOutlines() {
		checkBuild(t, dictionary(entryOf("a", o...)), noTrie, false)
	}
}

func TestATrieWithoutNodes(t *testing.T) {
	checkNoTrie(t, noTrie)
	checkNoTrie(t, exampleTrieCut(0))
	for n := 1; n <= 3; n++ {
		checkNoTrie(t, exampleTrieCut(n))
	}
	checkTrieOf(t, exampleEntries())
}

// The children fit the strokes here, but the numbers of the nodes are in another order.
func TestNodesThatAreNotInPreorder(t *testing.T) {
	checkNoTrie(t, trie(node("", 1, 1, 3, 2), node("a", 2, 3), node("c"), node("ab")))
	checkNoTrie(t, trie(node("", 1, 3, 3, 1), node("c"), node("ab"), node("a", 2, 2)))
	checkNoTrie(t, trie(node("", 1, 2, 3, 1), node("c"), node("a", 2, 3), node("ab")))
	checkNoTrie(t, trie(node("a", 2, 2), node("", 1, 0, 3, 3), node("ab"), node("c")))
	checkNoTrie(t, trie(node("c"), node("", 1, 2, 3, 0), node("a", 2, 3), node("ab")))
	checkNoTrie(t, trie(node("", 1, 2), node("ab"), node("a", 2, 1)))
	checkNoTrie(t, trie(node("", 1, 2, 2, 1), node("a"), node("b")))
	r := rand.New(rand.NewSource(77))
	for _, d := range []impl.Dictionary{exampleEntries(), stairs(6), numbered(6), randomDictionary(r, 9), fullest()} {
		nodes := expectedTrie(d).Nodes
		for range 60 {
			checkRenumbered(t, nodes, r.Perm(len(nodes)))
			i, k := r.Intn(len(nodes)), r.Intn(len(nodes))
			swapped := r.Perm(len(nodes))
			slices.Sort(swapped)
			swapped[i], swapped[k] = k, i
			checkRenumbered(t, nodes, swapped)
		}
	}
}

// checkRenumbered gives node i the number numbers[i].
func checkRenumbered(t *testing.T, nodes []impl.TrieNode, numbers []int) {
	t.Helper()
	renumbered := make([]impl.TrieNode, len(nodes))
	for i, n := range nodes {
		n.Children = slices.Clone(n.Children)
		for k, child := range n.Children {
			n.Children[k] = numbers[child]
		}
		renumbered[numbers[i]] = n
	}
	if slices.IsSorted(numbers) {
		checkIsTrie(t, trie(renumbered...), true)
		return
	}
	checkIsTrie(t, trie(renumbered...), false)
	checkTrieEntries(t, trie(renumbered...), noDictionary, false)
}

func TestStrokesOutOfOrderOrTwiceTheSame(t *testing.T) {
	checkNoTrie(t, trie(node("", 3, 1, 1, 3), node("a", 2, 2), node("ab"), node("c")))
	checkNoTrie(t, trie(node("", 3, 1, 1, 2), node("c"), node("a")))
	checkNoTrie(t, trie(node("", 1, 1, 1, 2), node("a"), node("c")))
	checkNoTrie(t, trie(node("", 1, 1, 1, 2), node("a"), node("a")))
	checkNoTrie(t, trie(node("", 1, 1, 1, 3), node("a", 2, 2), node("ab"), node("c")))
	checkNoTrie(t, trie(node("", 1, 1), node("", 5, 2, 5, 4), node("", 1, 3), node("a"), node("", 2, 5), node("b")))
	checkNoTrie(t, trie(node("", 1, 1, 3, 2, 2, 3), node("a"), node("c"), node("b")))
	checkNoTrie(t, trie(node("", 1, 1), node("a", 9, 2, 8, 3), node("b"), node("c")))
	for _, s := range notStrokes {
		checkNoTrie(t, trie(node("", s, 1), node("a")))
		checkNoTrie(t, trie(node("", 1, 1), node("a", s, 2), node("b")))
		checkNoTrie(t, trie(node("", min(s, 5), 1, max(s, 5), 2), node("a"), node("b")))
	}
}

// changed returns the trie of the examples after a change of one of its nodes.
func changed(number int, change func(n *impl.TrieNode)) impl.Trie {
	tr := exampleTrie()
	change(&tr.Nodes[number])
	return tr
}

func TestChildrenThatDoNotFitTheirStrokes(t *testing.T) {
	for number, own := range [][]int{{1, 3}, {2}, {}, {}} {
		strokes := exampleTrie().Nodes[number].Strokes
		for _, children := range [][]int{{}, {0}, {1}, {2}, {3}, {4}, {-1}, {1, 3}, {3, 1}, {1, 2}, {2, 3}, {1, 1}, {3, 3}, {0, 3}, {1, 0}, {1, 4}, {-1, 3}, {1, -3}, {1, 3, 3}, {1, 2, 3}, {1, 3, 0}, {2, 3, 3}} {
			if !slices.Equal(children, own) {
				checkNoTrie(t, changed(number, func(n *impl.TrieNode) { n.Children = children }))
			}
		}
		for _, child := range append([]int{number, number + 1<<32, 1<<32 + 2}, notNodes...) {
			for i := range own {
				children := slices.Clone(own)
				children[i] = child
				checkNoTrie(t, changed(number, func(n *impl.TrieNode) { n.Children = children }))
			}
			checkNoTrie(t, changed(number, func(n *impl.TrieNode) { n.Children = append(slices.Clone(own), child) }))
		}
		checkNoTrie(t, changed(number, func(n *impl.TrieNode) { n.Strokes = append(slices.Clone(strokes), largestStroke) }))
		checkNoTrie(t, changed(number, func(n *impl.TrieNode) { n.Strokes = append([]int{0}, strokes...) }))
		if len(strokes) > 0 {
			checkNoTrie(t, changed(number, func(n *impl.TrieNode) { n.Strokes = strokes[:len(strokes)-1] }))
			checkNoTrie(t, changed(number, func(n *impl.TrieNode) { n.Strokes = nil }))
		}
	}
}

func TestChildrenThatLeadTwiceToOneNodeOrRound(t *testing.T) {
	checkNoTrie(t, trie(node("", 1, 0)))
	checkNoTrie(t, trie(node("", 1, 1), node("a", 1, 0)))
	checkNoTrie(t, trie(node("", 1, 1), node("a", 1, 1)))
	checkNoTrie(t, trie(node("", 1, 1), node("a", 1, 2), node("b", 1, 1)))
	checkNoTrie(t, trie(node("", 1, 1), node("a", 1, 2), node("b", 1, 0)))
	checkNoTrie(t, trie(node("", 1, 1, 2, 1), node("a")))
	checkNoTrie(t, trie(node("", 1, 1, 2, 1), node("a"), node("b")))
	checkNoTrie(t, trie(node("", 1, 1, 2, 2), node("a", 3, 2), node("b")))
	checkNoTrie(t, trie(node("", 1, 1, 2, 2), node("a", 3, 3), node("b", 3, 3), node("c")))
	checkNoTrie(t, trie(node("", 1, 1, 2, 3), node("a", 3, 2), node("c"), node("b", 3, 2)))
	checkNoTrie(t, trie(node("", 1, 1), node("a"), node("b")))
	checkNoTrie(t, trie(node("", 1, 1), node("a"), node("")))
	checkNoTrie(t, trie(node(""), node("")))
	checkNoTrie(t, trie(node(""), node("a")))
}

func TestTextsThatDoNotFit(t *testing.T) {
	for number, own := range []string{"", "a", "ab", "c"} {
		for _, text := range append([]string{"x", "cat {^s}"}, invalidTexts...) {
			if text != "" {
				checkNoTrie(t, changed(number, func(n *impl.TrieNode) { n.HasText, n.Text = false, text }))
			}
			if text == "x" || text == "cat {^s}" {
				continue
			}
			checkNoTrie(t, changed(number, func(n *impl.TrieNode) { n.HasText, n.Text = true, text }))
		}
		checkNoTrie(t, changed(number, func(n *impl.TrieNode) { n.HasText, n.Text = number == 0, own }))
	}
	for number := 1; number <= 3; number++ {
		for _, text := range validTexts {
			checkIsTrie(t, changed(number, func(n *impl.TrieNode) { n.Text = text }), true)
		}
	}
	for _, text := range validTexts {
		checkNoTrie(t, changed(0, func(n *impl.TrieNode) { n.HasText, n.Text = true, text }))
		checkNoTrie(t, trie(node(text)))
	}
}

func TestALeafThatIsNoOutline(t *testing.T) {
	checkIsTrie(t, changed(1, func(n *impl.TrieNode) { n.HasText, n.Text = false, "" }), true)
	for number := 2; number <= 3; number++ {
		checkNoTrie(t, changed(number, func(n *impl.TrieNode) { n.HasText, n.Text = false, "" }))
	}
	checkNoTrie(t, trie(node("", 1, 1), node("")))
	checkNoTrie(t, trie(node("", 1, 1), node("a", 2, 2), node("", 3, 3), node("")))
	checkNoTrie(t, trie(node("", 1, 1, 2, 2), node(""), node("b")))
	checkNoTrie(t, trie(node("", 1, 1, 2, 2), node("a"), node("")))
	for i, n := range expectedTrie(fullest()).Nodes {
		if n.HasText {
			tr := expectedTrie(fullest())
			tr.Nodes[i].HasText, tr.Nodes[i].Text = false, ""
			checkIsTrie(t, tr, false)
		}
	}
}

// chain has n nodes behind the root, all of them with a text or only the last one.
func chain(n int, all bool) impl.Trie {
	tr := trie(node("", 1, 1))
	for i := 1; i < n; i++ {
		text := ""
		if all {
			text = "a"
		}
		tr.Nodes = append(tr.Nodes, node(text, 1, i+1))
	}
	tr.Nodes = append(tr.Nodes, node("a"))
	return tr
}

func TestPathsThatAreLongerThanAnOutline(t *testing.T) {
	for _, all := range []bool{true, false} {
		for n := 1; n <= 6; n++ {
			checkIsTrie(t, chain(n, all), true)
		}
		for _, n := range []int{7, 8, 20, 39, 40, 41, 100, 240} {
			checkNoTrie(t, chain(n, all))
		}
	}
	checkNoTrie(t, expectedTrie(stairs(7)))
	checkNoTrie(t, expectedTrie(dictionary(entryOf("a", 1), entryOf("b", 2, 2, 2, 2, 2, 2, 2))))
}

func TestOneNodeMoreThanMayBe(t *testing.T) {
	d := fullest()
	deeper := fullest()
	deeper.Entries[39].Outline = append(deeper.Entries[39].Outline, 5)
	more := with(d, entryOf("new", largestStroke))
	unreached := expectedTrie(d)
	unreached.Nodes = append(unreached.Nodes, node("new"))
	aside := expectedTrie(d)
	last := &aside.Nodes[239]
	last.Strokes, last.Children = append(last.Strokes, 9), append(last.Children, 241)
	aside.Nodes = append(aside.Nodes, node(""))
	for _, tr := range []impl.Trie{expectedTrie(deeper), expectedTrie(more), unreached, aside} {
		if len(tr.Nodes) != 242 {
			t.Fatal("not what the test needs", shownTrie(tr))
		}
		checkNoTrie(t, tr)
	}
	checkNoTrie(t, trie(expectedTrie(d).Nodes[:240]...))
}

func TestMoreOutlinesThanMayBe(t *testing.T) {
	for n := 35; n <= 40; n++ {
		checkIsTrie(t, expectedTrie(numbered(n)), true)
	}
	for _, n := range []int{41, 42, 60, 160} {
		checkNoTrie(t, expectedTrie(numbered(n)))
	}
	// 41 outlines of at most two strokes that all begin with the same one.
	var d impl.Dictionary
	for i := range 41 {
		d.Entries = append(d.Entries, entryOf("a", append([]int{7}, slices.Repeat([]int{i}, min(i, 1))...)...))
	}
	checkNoTrie(t, expectedTrie(d))
	checkTrieOf(t, dictionary(d.Entries[:40]...))
	checkTrieOf(t, dictionary(d.Entries[1:]...))
}

// The work on these would never end if the numbers were believed.
func TestVeryLargeTries(t *testing.T) {
	many := slices.Repeat([]int{1}, 1<<20)
	ascending := make([]int, 1<<20)
	for i := range ascending {
		ascending[i] = i + 1
	}
	checkIsTrie(t, chain(1<<16, true), false)
	checkIsTrie(t, chain(1<<16, false), false)
	checkIsTrie(t, trie(make([]impl.TrieNode, 1<<16)...), false)
	for _, strokes := range [][]int{many, ascending} {
		for _, children := range [][]int{many, ascending, nil} {
			wide := impl.TrieNode{Strokes: strokes, Children: children, HasText: true, Text: "a"}
			for _, nodes := range [][]impl.TrieNode{{wide}, slices.Repeat([]impl.TrieNode{wide}, 241), {node("", 1, 1), wide}} {
				if impl.IsValidTrie(trie(nodes...)) {
					t.Error("valid", len(nodes))
				}
			}
		}
	}
	// Every node leads to all nodes behind it, so that the number of ways is exponential.
	var nodes []impl.TrieNode
	for i := range 241 {
		nodes = append(nodes, impl.TrieNode{Strokes: ascending[i : 240 : 1<<19], Children: ascending[i : 240 : 1<<19], HasText: i > 0, Text: strings.Repeat("a", min(i, 1))})
	}
	checkNoTrie(t, trie(nodes...))
}

// checkTrieOrNot compares with the second reading of the document what is and what is no trie.
func checkTrieOrNot(t *testing.T, tr impl.Trie) bool {
	t.Helper()
	valid := expectedIsTrie(tr)
	if got := impl.IsValidTrie(tr); got != valid {
		t.Errorf("IsValidTrie(%s) = %v", shownTrie(tr), got)
	}
	want := noDictionary
	if valid {
		want = expectedEntries(tr)
	}
	if got, ok := impl.TrieEntries(tr); !sameEntries(got, want) || ok != valid {
		t.Errorf("TrieEntries(%s) = %s, %v", shownTrie(tr), shownDictionary(got), ok)
	}
	return valid
}

// listsOver lists all lists of exactly n of the values.
func listsOver(values []int, n int) [][]int {
	lists := [][]int{nil}
	for range n {
		var longer [][]int
		for _, l := range lists {
			for _, v := range values {
				longer = append(longer, append(slices.Clone(l), v))
			}
		}
		lists = longer
	}
	return lists
}

// nodesOver lists all nodes of up to two of the strokes with as many of the children, and with
// up to more children more.
func nodesOver(strokes, children []int, more int, texts ...impl.TrieNode) []impl.TrieNode {
	var all []impl.TrieNode
	for n := range 3 {
		for m := max(0, n-more); m <= n+more; m++ {
			for _, s := range listsOver(strokes, n) {
				for _, c := range listsOver(children, m) {
					for _, text := range texts {
						all = append(all, impl.TrieNode{Strokes: s, Children: c, HasText: text.HasText, Text: text.Text})
					}
				}
			}
		}
	}
	return all
}

// Every trie of one or two small nodes, and every one of three nodes with as many children as
// strokes. As many are valid as there are dictionaries with that many prefixes.
func TestAllSmallTries(t *testing.T) {
	texts := []impl.TrieNode{{}, {HasText: true, Text: "a"}, {Text: "a"}, {HasText: true}}
	valid := 0
	few := nodesOver([]int{1, 2}, []int{-1, 0, 1, 2}, 1, texts...)
	for _, root := range few {
		if checkTrieOrNot(t, trie(root)) {
			valid++
		}
	}
	for _, root := range nodesOver([]int{0, 1}, []int{0, 1, 2}, 1, texts...) {
		for _, second := range nodesOver([]int{0, 1}, []int{0, 1, 2}, 1, texts[:2]...) {
			if checkTrieOrNot(t, trie(root, second)) {
				valid++
			}
		}
	}
	three := nodesOver([]int{1, 2}, []int{0, 1, 2}, 0, texts[:2]...)
	for _, root := range three {
		for _, second := range three {
			for _, third := range three {
				if checkTrieOrNot(t, trie(root, second, third)) {
					valid++
				}
			}
		}
	}
	// The root alone; {1}; {1} and {2}, or a way of two strokes of which the first is an outline
	// or not.
	if valid != 1+1+1+4*2 {
		t.Error("valid", valid)
	}
}

// spoilTrie changes one or two things of a trie, mostly into what is none.
func spoilTrie(r *rand.Rand, tr impl.Trie) impl.Trie {
	tr = cloneTrie(tr)
	nodes := tr.Nodes
	n := &nodes[r.Intn(len(nodes))]
	near := func(v int) int { return v + []int{-1, 1, 0, -v, r.Intn(len(nodes)) - v}[r.Intn(5)] }
	at := func(l []int) int { return r.Intn(len(l)) }
	switch kind := r.Intn(9); {
	case kind == 0:
		n.HasText = !n.HasText
	case kind == 1:
		n.Text = []string{"", "x", "{", n.Text}[r.Intn(4)]
	case kind == 2:
		n.HasText, n.Text = !n.HasText, []string{"", "x"}[r.Intn(2)]
	case kind == 3 && len(n.Strokes) > 0:
		i := at(n.Strokes)
		n.Strokes[i] = near(n.Strokes[i])
	case kind == 4 && len(n.Children) > 0:
		i := at(n.Children)
		n.Children[i] = near(n.Children[i])
	case kind == 5 && len(n.Strokes) > 0:
		i := at(n.Strokes)
		n.Strokes = slices.Delete(n.Strokes, i, i+1)
	case kind == 6 && len(n.Children) > 0:
		i := at(n.Children)
		n.Children = slices.Delete(n.Children, i, i+1)
	case kind == 7:
		i, k := r.Intn(len(nodes)), r.Intn(len(nodes))
		nodes[i], nodes[k] = nodes[k], nodes[i]
	default:
		n.Strokes, n.Children = append(n.Strokes, 1+r.Intn(largestStroke)), append(n.Children, len(nodes))
		return trie(append(nodes, node([]string{"", "x"}[r.Intn(2)]))...)
	}
	return trie(nodes...)
}

func TestSpoiledTries(t *testing.T) {
	r := rand.New(rand.NewSource(777))
	valid, invalid := 0, 0
	for i := range 6000 {
		tr := spoilTrie(r, expectedTrie(randomDictionary(r, 1+i%12)))
		if r.Intn(3) == 0 {
			tr = spoilTrie(r, tr)
		}
		if checkTrieOrNot(t, tr) {
			valid++
		} else {
			invalid++
		}
	}
	if valid < 500 || invalid < 3000 {
		t.Error("the tries do not try both sides", valid, invalid)
	}
}

func TestRandomTries(t *testing.T) {
	r := rand.New(rand.NewSource(7777))
	for n := range 41 {
		d := randomDictionary(r, n)
		checkTrieOf(t, d)
		for range 20 {
			checkInto(t, d, randomEntry(r))
			if n > 0 {
				checkInto(t, d, entryOf("x", d.Entries[r.Intn(n)].Outline...))
			}
		}
	}
}

// Promise 7, with the functions of chapter 6 themselves on the other side.
func TestTrieOperationsAgreeWithDictionaryOperations(t *testing.T) {
	r := rand.New(rand.NewSource(77777))
	for i := range 1200 {
		d := randomDictionary(r, i%41)
		tr, built := impl.BuildTrie(d)
		e := randomEntry(r)
		inserted, insertOK := impl.Insert(d, e)
		deleted, deleteOK := impl.Delete(d, e.Outline)
		text, lookupOK := impl.Lookup(d, e.Outline)
		insertedTrie, ok := impl.InsertTrie(tr, e)
		deletedTrie, ok2 := impl.DeleteTrie(tr, e.Outline)
		found, ok3 := impl.LookupTrie(tr, e.Outline)
		if !built || ok != insertOK || ok2 != deleteOK || ok3 != lookupOK || found != text {
			t.Fatal("disagree", shownDictionary(d), e, built, ok, ok2, ok3, found)
		}
		if back, ok := impl.TrieEntries(tr); !ok || !sameEntries(back, d) {
			t.Fatal("not inverse", shownDictionary(d), shownDictionary(back))
		}
		checkSameEntriesInTrie(t, insertedTrie, inserted, insertOK)
		checkSameEntriesInTrie(t, deletedTrie, deleted, deleteOK)
	}
}

func checkSameEntriesInTrie(t *testing.T, tr impl.Trie, d impl.Dictionary, ok bool) {
	t.Helper()
	if back, found := impl.TrieEntries(tr); found != ok || !sameEntries(back, d) {
		t.Fatal("not the entries", shownDictionary(back), shownDictionary(d), found)
	}
}

func TestRandomStrokeLists(t *testing.T) {
	r := rand.New(rand.NewSource(7171))
	for n := range 41 {
		d := randomDictionary(r, n)
		tr, prefixes := expectedTrie(d), prefixesOf(d)
		for range 40 {
			var l []int
			for len(l) < r.Intn(12) {
				l = append(l, randomOutlineOfFew(r)...)
			}
			number := slices.IndexFunc(prefixes, func(o []int) bool { return slices.Equal(o, l) })
			length, text := expectedPrefix(d, l)
			checkWalk(t, tr, l, max(number, 0), number >= 0)
			checkPrefix(t, tr, l, length, text)
			checkLookupTrie(t, tr, l, expectedLookup(d, l))
		}
	}
}

// The outlines of the arguments, and the lists of the nodes, share memory here; those of the
// results must not.
func TestArgumentsWhoseListsShareMemory(t *testing.T) {
	o := []int{1, 2, 3, 4, 5, 6}
	var d impl.Dictionary
	for n := range o {
		d.Entries = append(d.Entries, entryOf("a", o[:n+1]...))
	}
	built, _ := impl.BuildTrie(d)
	overwriteTrie(t, "BuildTrie", built)
	var tr impl.Trie
	for i := range o {
		tr.Nodes = append(tr.Nodes, impl.TrieNode{Strokes: o[i : i+1], Children: o[i : i+1], HasText: i > 0, Text: strings.Repeat("a", min(i, 1))})
	}
	tr.Nodes = append(tr.Nodes, impl.TrieNode{Strokes: o[:0], Children: o[:0], HasText: true, Text: "a"})
	for _, e := range []impl.Entry{entryOf("b", o[1:]...), entryOf("b", o[:3]...), entryOf("b", o...)} {
		after, ok := impl.InsertTrie(tr, e)
		checkStrokes(t, []int{len(after.Nodes)}, len(expectedTrie(with(d, e)).Nodes))
		overwriteTrie(t, "InsertTrie", after)
		if !ok {
			t.Error("InsertTrie failed")
		}
	}
	after, _ := impl.DeleteTrie(tr, o[:4])
	overwriteTrie(t, "DeleteTrie", after)
	entries, _ := impl.TrieEntries(tr)
	overwriteDictionary(t, "TrieEntries", entries)
	strokes, _ := impl.Continuations(tr, 2)
	overwrite(t, "Continuations", [][]int{strokes})
	checkStrokes(t, o, 1, 2, 3, 4, 5, 6)
	checkTrieOf(t, d)
}

// Neither of two results shares memory with the other.
func TestTriesBuiltTwiceAreNewMemory(t *testing.T) {
	d, tr := exampleEntries(), exampleTrie()
	first, _ := impl.BuildTrie(d)
	second, _ := impl.BuildTrie(d)
	overwriteTrie(t, "BuildTrie", first)
	checkIsTrie(t, second, true)
	one, _ := impl.Continuations(tr, 0)
	two, _ := impl.Continuations(tr, 0)
	overwrite(t, "Continuations", [][]int{one, two})
	before, _ := impl.TrieEntries(tr)
	again, _ := impl.TrieEntries(tr)
	overwriteDictionary(t, "TrieEntries", before)
	if !sameEntries(again, d) || !sameTrie(tr, exampleTrie()) || !sameTrie(second, exampleTrie()) {
		t.Error("shared", again, tr, second)
	}
}
