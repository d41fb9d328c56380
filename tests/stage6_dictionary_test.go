package tests

import (
	"fmt"
	"math/rand"
	"slices"
	"strings"
	"testing"

	"loop.example/g00882/impl"
)

// Promise 6: an inserted entry is found, other entries are unchanged, and deletion undoes
// insertion. Promise 26, for chapter 6: every function returns for all arguments and modifies
// none of them.

var noDictionary impl.Dictionary

func entryOf(text string, o ...int) impl.Entry { return impl.Entry{Outline: o, Text: text} }

func dictionary(l ...impl.Entry) impl.Dictionary { return impl.Dictionary{Entries: l} }

// dict reads an outline and a text in turn.
func dict(pairs ...string) impl.Dictionary {
	var d impl.Dictionary
	for i := 0; i < len(pairs); i += 2 {
		d.Entries = append(d.Entries, entryOf(pairs[i+1], strokesOf(pairs[i])...))
	}
	return d
}

// strokesOf returns nothing if the notation is not that of an outline.
func strokesOf(notation string) []int {
	parts := strings.Split(notation, "/")
	if len(parts) > 6 {
		return nil
	}
	var o []int
	for _, part := range parts {
		s := expectedLoose(part)
		if s == noStroke || expectedNotation(s) != part {
			return nil
		}
		o = append(o, s)
	}
	return o
}

func notationOf(o []int) string {
	var parts []string
	for _, s := range o {
		parts = append(parts, expectedNotation(s))
	}
	return strings.Join(parts, "/")
}

func expectedEntry(e impl.Entry) bool {
	for _, s := range e.Outline {
		if s < smallestStroke || s > largestStroke {
			return false
		}
	}
	return len(e.Outline) >= 1 && len(e.Outline) <= 6 && len(expectedAtoms(e.Text)) > 0
}

// expectedDictionary compares the outlines in digits, see expectedOrder.
func expectedDictionary(d impl.Dictionary) bool {
	last := ""
	for _, e := range d.Entries {
		if !expectedEntry(e) || inDigits(e.Outline) <= last {
			return false
		}
		last = inDigits(e.Outline)
	}
	return len(d.Entries) <= 40
}

func expectedText(d impl.Dictionary) string {
	text := ""
	for _, e := range d.Entries {
		text += notationOf(e.Outline) + " " + e.Text + "\n"
	}
	return text
}

// expectedParse is told apart from the empty dictionary by its second result only.
func expectedParse(text string) (impl.Dictionary, bool) {
	lines := strings.Split(text, "\n")
	last := len(lines) - 1
	if len(text) > 4000 || lines[last] != "" {
		return noDictionary, false
	}
	var d impl.Dictionary
	for _, line := range lines[:last] {
		words := strings.Split(line, " ")
		d.Entries = append(d.Entries, entryOf(strings.Join(words[1:], " "), strokesOf(words[0])...))
	}
	if !expectedDictionary(d) {
		return noDictionary, false
	}
	return d, true
}

// without keeps the entries with other outlines.
func without(d impl.Dictionary, o []int) impl.Dictionary {
	var rest impl.Dictionary
	for _, e := range d.Entries {
		if !slices.Equal(e.Outline, o) {
			rest.Entries = append(rest.Entries, e)
		}
	}
	return rest
}

// with puts e behind the other entries and then sorts them.
func with(d impl.Dictionary, e impl.Entry) impl.Dictionary {
	all := without(d, e.Outline)
	all.Entries = append(all.Entries, e)
	slices.SortFunc(all.Entries, func(a, b impl.Entry) int { return expectedOrder(a.Outline, b.Outline) })
	return all
}

func sameEntries(a, b impl.Dictionary) bool {
	return slices.EqualFunc(a.Entries, b.Entries, func(e, f impl.Entry) bool {
		return e.Text == f.Text && slices.Equal(e.Outline, f.Outline)
	})
}

// shownDictionary spares the reader most of the longest dictionaries.
func shownDictionary(d impl.Dictionary) string {
	text := fmt.Sprint(len(d.Entries), " entries:")
	for _, e := range d.Entries[:min(len(d.Entries), 12)] {
		text += fmt.Sprintf(" %s %.60q", shown(e.Outline), e.Text)
	}
	return text
}

// withRoom copies d and leaves room behind its last entry and behind the last stroke of each of
// its outlines, so that what is read or written there shows too.
func withRoom(d impl.Dictionary) impl.Dictionary {
	all := append(slices.Clone(d.Entries), entryOf("behind", 2), entryOf("", -7), entryOf("{", 0))
	for i := range all {
		all[i].Outline = lend(all[i].Outline).outline
	}
	return dictionary(all[:len(d.Entries)]...)
}

// memoryOf copies all entries of d and all of their strokes, those in the room included.
func memoryOf(d impl.Dictionary) impl.Dictionary {
	all := slices.Clone(d.Entries[:cap(d.Entries)])
	for i, e := range all {
		all[i].Outline = slices.Clone(e.Outline[:cap(e.Outline)])
	}
	return dictionary(all...)
}

func withDictionary(t *testing.T, name string, d impl.Dictionary, f func(d impl.Dictionary)) {
	t.Helper()
	d = withRoom(d)
	before := memoryOf(d)
	f(d)
	if after := memoryOf(d); !sameEntries(after, before) {
		t.Fatalf("%s changed %s to %s", name, shownDictionary(before), shownDictionary(after))
	}
}

// overwrite fills each list, up to its capacity, with a number of its own. Every list keeps its
// number unless it shares memory with another one; an argument that shares memory is changed.
func overwrite(t *testing.T, name string, lists [][]int) {
	t.Helper()
	for i, l := range lists {
		for n := range cap(l) {
			l[:cap(l)][n] = -100 - i
		}
	}
	for i, l := range lists {
		for _, s := range l[:cap(l)] {
			if s != -100-i {
				t.Fatalf("%s returned two lists that share memory", name)
			}
		}
	}
}

func overwriteDictionary(t *testing.T, name string, d impl.Dictionary) {
	t.Helper()
	var outlines [][]int
	for _, e := range d.Entries {
		outlines = append(outlines, e.Outline)
	}
	overwrite(t, name, outlines)
	for i := range cap(d.Entries) {
		d.Entries[:cap(d.Entries)][i] = entryOf("overwritten", -100)
	}
}

func checkIsEntry(t *testing.T, e impl.Entry, want bool) {
	t.Helper()
	l := lend(e.Outline)
	if got := impl.IsValidEntry(entryOf(e.Text, l.outline...)); got != want {
		t.Errorf("IsValidEntry(%s, %.60q) = %v", shown(e.Outline), e.Text, got)
	}
	checkUnchanged(t, "IsValidEntry", l)
}

func checkIsDictionary(t *testing.T, d impl.Dictionary, want bool) {
	t.Helper()
	withDictionary(t, "IsValidDictionary", d, func(d impl.Dictionary) {
		if got := impl.IsValidDictionary(d); got != want {
			t.Errorf("IsValidDictionary(%s) = %v", shownDictionary(d), got)
		}
	})
}

// checkLookup expects a failure if want is empty.
func checkLookup(t *testing.T, d impl.Dictionary, o []int, want string) {
	t.Helper()
	withDictionary(t, "Lookup", d, func(d impl.Dictionary) {
		l := lend(o)
		if got, ok := impl.Lookup(d, l.outline); got != want || ok != (want != "") {
			t.Errorf("Lookup(%s, %s) = %.60q, %v; want %q", shownDictionary(d), shown(o), got, ok, want)
		}
		checkUnchanged(t, "Lookup", l)
	})
}

func checkInsert(t *testing.T, d impl.Dictionary, e impl.Entry, want impl.Dictionary, wantOK bool) {
	t.Helper()
	withDictionary(t, "Insert", d, func(d impl.Dictionary) {
		l := lend(e.Outline)
		got, ok := impl.Insert(d, entryOf(e.Text, l.outline...))
		if !sameEntries(got, want) || ok != wantOK {
			t.Errorf("Insert(%s, %s, %.60q) = %s, %v; want %s", shownDictionary(d), shown(e.Outline), e.Text, shownDictionary(got), ok, shownDictionary(want))
		}
		overwriteDictionary(t, "Insert", got)
		checkUnchanged(t, "Insert", l)
	})
}

func checkDelete(t *testing.T, d impl.Dictionary, o []int, want impl.Dictionary, wantOK bool) {
	t.Helper()
	withDictionary(t, "Delete", d, func(d impl.Dictionary) {
		l := lend(o)
		got, ok := impl.Delete(d, l.outline)
		if !sameEntries(got, want) || ok != wantOK {
			t.Errorf("Delete(%s, %s) = %s, %v; want %s", shownDictionary(d), shown(o), shownDictionary(got), ok, shownDictionary(want))
		}
		overwriteDictionary(t, "Delete", got)
		checkUnchanged(t, "Delete", l)
	})
}

func checkReverse(t *testing.T, d impl.Dictionary, text string, want [][]int, wantOK bool) {
	t.Helper()
	withDictionary(t, "ReverseLookup", d, func(d impl.Dictionary) {
		got, ok := impl.ReverseLookup(d, text)
		if !slices.EqualFunc(got, want, slices.Equal[[]int]) || ok != wantOK {
			t.Errorf("ReverseLookup(%s, %.60q) = %v, %v; want %v", shownDictionary(d), text, got, ok, want)
		}
		overwrite(t, "ReverseLookup", got)
	})
}

func checkLongest(t *testing.T, d impl.Dictionary, want int, wantOK bool) {
	t.Helper()
	withDictionary(t, "LongestOutline", d, func(d impl.Dictionary) {
		if got, ok := impl.LongestOutline(d); got != want || ok != wantOK {
			t.Errorf("LongestOutline(%s) = %d, %v; want %d, %v", shownDictionary(d), got, ok, want, wantOK)
		}
	})
}

func checkFormatDictionary(t *testing.T, d impl.Dictionary, want string, wantOK bool) {
	t.Helper()
	withDictionary(t, "FormatDictionary", d, func(d impl.Dictionary) {
		if got, ok := impl.FormatDictionary(d); got != want || ok != wantOK {
			t.Errorf("FormatDictionary(%s) = %.200q, %v; want %.200q, %v", shownDictionary(d), got, ok, want, wantOK)
		}
	})
}

func checkParseDictionary(t *testing.T, text string, want impl.Dictionary, wantOK bool) {
	t.Helper()
	got, ok := impl.ParseDictionary(text)
	if !sameEntries(got, want) || ok != wantOK {
		t.Errorf("ParseDictionary(%.200q) = %s, %v; want %s, %v", text, shownDictionary(got), ok, shownDictionary(want), wantOK)
	}
	overwriteDictionary(t, "ParseDictionary", got)
}

func checkNoText(t *testing.T, texts ...string) {
	t.Helper()
	for _, text := range texts {
		checkParseDictionary(t, text, noDictionary, false)
	}
}

// checkDictionary asks all functions that take a dictionary alone, and asks for every entry.
func checkDictionary(t *testing.T, d impl.Dictionary) {
	t.Helper()
	checkIsDictionary(t, d, true)
	longest := 0
	for _, e := range d.Entries {
		longest = max(longest, len(e.Outline))
		checkLookup(t, d, e.Outline, e.Text)
		checkReverse(t, d, e.Text, expectedReverse(d, e.Text), true)
	}
	checkLongest(t, d, longest, true)
	if text := expectedText(d); len(text) <= 4000 {
		checkFormatDictionary(t, d, text, true)
		checkParseDictionary(t, text, d, true)
	} else {
		checkFormatDictionary(t, d, "", false)
		checkNoText(t, text)
	}
}

func expectedReverse(d impl.Dictionary, text string) [][]int {
	var outlines [][]int
	for _, e := range d.Entries {
		if e.Text == text {
			outlines = append(outlines, e.Outline)
		}
	}
	return outlines
}

// checkNoDictionary also asks for what the dictionary would hold.
func checkNoDictionary(t *testing.T, d impl.Dictionary) {
	t.Helper()
	checkIsDictionary(t, d, false)
	checkLongest(t, d, 0, false)
	checkFormatDictionary(t, d, "", false)
	checkInsert(t, d, entryOf("new", 1), noDictionary, false)
	checkInsert(t, d, entryOf("new", largestStroke, 5), noDictionary, false)
	for _, e := range []impl.Entry{d.Entries[0], d.Entries[len(d.Entries)-1], entryOf("a", 2)} {
		checkLookup(t, d, e.Outline, "")
		checkInsert(t, d, e, noDictionary, false)
		checkInsert(t, d, entryOf("a", e.Outline...), noDictionary, false)
		checkDelete(t, d, e.Outline, noDictionary, false)
		checkReverse(t, d, e.Text, nil, false)
	}
}

// numbered returns n entries; entry i has the strokes 10*i and, if i is even, another one.
func numbered(n int) impl.Dictionary {
	var d impl.Dictionary
	for i := 1; i <= n; i++ {
		o := []int{10 * i}
		if i%2 == 0 {
			o = append(o, 1)
		}
		d.Entries = append(d.Entries, entryOf(fmt.Sprint("w", i%7), o...))
	}
	return d
}

// validTexts and invalidTexts lie on both sides of what ParseTranslation accepts.
var validTexts = []string{
	"a", "cat", "{^s}", "{un^} do {^ing}", "{.} {-|}", "-", ".", "a b c d e f g h i j", strings.Repeat("x", 20),
	notationsOf(wordsOfTotal(4, 60)), "KAT", "S/S", "{*-|}", "=", "~", "0",
}

var invalidTexts = []string{
	"", " ", "{", "}", "{}", "{^}", "a ", " a", "a  b", "a b c d e f g h i j k", strings.Repeat("x", 21),
	notationsOf(wordsOfTotal(4, 61)), "#", "a#", "\n", "a\n", "\na", "a\nb", "a\tb", "\x00", "\x7f", "\xff", "{a}", "{^a b}", "a>b",
	strings.Repeat("a ", 50000) + "a", strings.Repeat("a", 100000),
}

func TestConstantOfChapter6(t *testing.T) {
	if impl.MaxEntries != 40 {
		t.Error("entries", impl.MaxEntries)
	}
}

func TestIsValidEntry(t *testing.T) {
	checkIsEntry(t, entryOf("cat", of(3, 8, 19)), true)
	checkIsEntry(t, impl.Entry{}, false)
	for _, o := range validOutlines() {
		checkIsEntry(t, entryOf("cat", o...), true)
		checkIsEntry(t, entryOf("{", o...), false)
	}
	for _, o := range notOutlines() {
		checkIsEntry(t, entryOf("cat", o...), false)
		checkIsEntry(t, entryOf("", o...), false)
	}
	for _, text := range validTexts {
		checkIsEntry(t, entryOf(text, 2), true)
		checkIsEntry(t, entryOf(text, 1, 2, 3, 4, 5, 6), true)
		checkIsEntry(t, entryOf(text, 1, 2, 3, 4, 5, 6, 7), false)
		checkIsEntry(t, entryOf(text), false)
	}
	for _, text := range invalidTexts {
		checkIsEntry(t, entryOf(text, 2), false)
		checkIsEntry(t, entryOf(text, 1, 2, 3, 4, 5, 6), false)
		checkIsEntry(t, entryOf(text), false)
	}
}

func TestTheEmptyDictionary(t *testing.T) {
	checkDictionary(t, noDictionary)
	checkParseDictionary(t, "", noDictionary, true)
	for _, d := range []impl.Dictionary{{}, {Entries: []impl.Entry{}}, {Entries: numbered(3).Entries[:0]}} {
		checkEmptyDictionary(t, d)
	}
}

// Here d itself is handed over, a nil slice too.
func checkEmptyDictionary(t *testing.T, d impl.Dictionary) {
	t.Helper()
	if n, ok := impl.LongestOutline(d); n != 0 || !ok || !impl.IsValidDictionary(d) {
		t.Error("not valid", n, ok)
	}
	if text, ok := impl.Lookup(d, []int{10}); text != "" || ok {
		t.Error("found", text, ok)
	}
	if after, ok := impl.Delete(d, []int{10}); len(after.Entries) != 0 || ok {
		t.Error("deleted", after, ok)
	}
	if l, ok := impl.ReverseLookup(d, "w1"); len(l) != 0 || !ok {
		t.Error("reverse", l, ok)
	}
	if text, ok := impl.FormatDictionary(d); text != "" || !ok {
		t.Error("format", text, ok)
	}
	after, ok := impl.Insert(d, entryOf("cat", 2, 3))
	if !sameEntries(after, dictionary(entryOf("cat", 2, 3))) || !ok || len(d.Entries) != 0 {
		t.Error("insert", after, ok)
	}
}

func TestTheExampleOfTheDocument(t *testing.T) {
	d := dict("KAT", "cat")
	checkFormatDictionary(t, d, "KAT cat\n", true)
	checkParseDictionary(t, "KAT cat\n", d, true)
	checkDictionary(t, d)
	checkInsert(t, noDictionary, entryOf("cat", of(3, 8, 19)), d, true)
	checkDelete(t, d, []int{of(3, 8, 19)}, noDictionary, true)
	checkLookup(t, d, []int{of(3, 8, 19)}, "cat")
	checkLookup(t, d, []int{of(3, 8, 19), of(20)}, "")
	checkLookup(t, d, []int{of(20)}, "")
}

func TestDictionaries(t *testing.T) {
	checkDictionary(t, dict("#", "a", "KAT", "cat", "KAT/-S", "cat {^s}", "-S", "{^s}", "-Z", "{.} {-|}"))
	checkDictionary(t, dict("S", "b", "S/S", "a", "S/S/S", "b", "S/S/S/S", "a", "S/S/S/S/S", "b", "S/S/S/S/S/S", "a"))
	for n := range 41 {
		checkDictionary(t, numbered(n))
	}
	for _, text := range validTexts {
		checkDictionary(t, dictionary(entryOf(text, 2), entryOf(text, 2, 1), entryOf(text, largestStroke)))
	}
}

// Neither the notations nor the texts of these entries are in the order of the outlines.
func TestEntriesAreInTheOrderOfOutlines(t *testing.T) {
	var d impl.Dictionary
	for _, o := range validOutlines() {
		if len(o) <= 2 && len(d.Entries) < 40 {
			d = with(d, entryOf(fmt.Sprint("t", 99-len(d.Entries)), o...))
		}
	}
	checkDictionary(t, d)
	for i := range len(d.Entries) - 1 {
		swapped := slices.Clone(d.Entries)
		swapped[i], swapped[i+1] = swapped[i+1], swapped[i]
		checkNoDictionary(t, dictionary(swapped...))
	}
}

func TestDictionariesOutOfOrder(t *testing.T) {
	checkNoDictionary(t, dict("-S", "a", "KAT", "b"))
	checkNoDictionary(t, dict("S/S", "a", "S", "b"))
	checkNoDictionary(t, dict("S", "a", "-S", "b", "T", "c"))
	checkNoDictionary(t, dict("S", "a", "T", "b", "S/T", "c"))
	for n := 2; n <= 40; n++ {
		for i := 1; i < n; i++ {
			moved := numbered(n).Entries
			first := moved[0]
			copy(moved, moved[1:i+1])
			moved[i] = first
			checkIsDictionary(t, dictionary(moved...), false)
		}
		reversed := numbered(n)
		slices.Reverse(reversed.Entries)
		checkNoDictionary(t, reversed)
	}
}

func TestTwiceTheSameOutline(t *testing.T) {
	checkNoDictionary(t, dict("KAT", "cat", "KAT", "cat"))
	checkNoDictionary(t, dict("KAT", "cat", "KAT", "dog"))
	checkNoDictionary(t, dict("KAT/-S", "cat", "KAT/-S", "dog"))
	checkNoDictionary(t, dict("S/S/S/S/S/S", "cat", "S/S/S/S/S/S", "dog"))
	for i := range 39 {
		twice := numbered(39).Entries
		twice = slices.Insert(twice, i, twice[i])
		checkNoDictionary(t, dictionary(twice...))
	}
}

func TestAnInvalidEntryInADictionary(t *testing.T) {
	var bad []impl.Entry
	for _, text := range invalidTexts {
		bad = append(bad, entryOf(text, 20, 1))
	}
	for _, s := range notStrokes {
		bad = append(bad, entryOf("w2", s), entryOf("w2", 20, s), entryOf("w2", 20, 1, 1, 1, 1, s))
	}
	bad = append(bad, entryOf("w2"), entryOf("", 20), impl.Entry{}, entryOf("w2", 20, 1, 1, 1, 1, 1, 1), entryOf("w2", slices.Repeat([]int{20}, 1<<16)...))
	for _, e := range bad {
		checkNoDictionary(t, dictionary(e))
		checkNoDictionary(t, dictionary(numbered(1).Entries[0], e))
		for _, n := range []int{3, 40} {
			d := numbered(n)
			d.Entries[1] = e
			checkNoDictionary(t, d)
		}
		checkInsert(t, noDictionary, e, noDictionary, false)
		checkInsert(t, numbered(1), e, noDictionary, false)
		checkInsert(t, numbered(30), e, noDictionary, false)
	}
}

// Behind the others and before them, every place in a dictionary counts.
func TestAnInvalidEntryAtEveryPlace(t *testing.T) {
	for i := range 40 {
		d := numbered(40)
		d.Entries[i].Text = "{"
		checkNoDictionary(t, d)
		d = numbered(40)
		d.Entries[i].Outline = append(d.Entries[i].Outline, 0)
		checkNoDictionary(t, d)
	}
	all := numbered(5).Entries
	all[3].Text = ""
	checkIsDictionary(t, dictionary(all[:3]...), true)
	checkIsDictionary(t, dictionary(all[4:]...), true)
}

func TestMoreEntriesThanMayBe(t *testing.T) {
	checkDictionary(t, numbered(40))
	for n := 41; n <= 45; n++ {
		checkNoDictionary(t, numbered(n))
	}
	checkNoDictionary(t, numbered(80))
	checkNoDictionary(t, dictionary(slices.Repeat([]impl.Entry{entryOf("a", 2)}, 1<<12)...))
}

func TestInsertAtTheBeginningInTheMiddleAndAtTheEnd(t *testing.T) {
	d := dict("T", "t", "P", "p", "H", "h")
	checkInsert(t, d, entryOf("s", strokesOf("S")...), dict("S", "s", "T", "t", "P", "p", "H", "h"), true)
	checkInsert(t, d, entryOf("k", strokesOf("K")...), dict("T", "t", "K", "k", "P", "p", "H", "h"), true)
	checkInsert(t, d, entryOf("w", strokesOf("W")...), dict("T", "t", "P", "p", "W", "w", "H", "h"), true)
	checkInsert(t, d, entryOf("r", strokesOf("R")...), dict("T", "t", "P", "p", "H", "h", "R", "r"), true)
	for n := range 40 {
		for i := range n + 1 {
			e := entryOf("new", 10*i+5, 3)
			inserted := dictionary(slices.Insert(numbered(n).Entries, i, e)...)
			checkInsert(t, numbered(n), e, inserted, true)
			checkDelete(t, inserted, e.Outline, numbered(n), true)
		}
	}
}

func TestInsertReplacesTheTextOfTheSameOutline(t *testing.T) {
	d := dict("S", "s", "S/T", "st", "T", "t")
	checkInsert(t, d, entryOf("new", strokesOf("S")...), dict("S", "new", "S/T", "st", "T", "t"), true)
	checkInsert(t, d, entryOf("{^new}", strokesOf("S/T")...), dict("S", "s", "S/T", "{^new}", "T", "t"), true)
	checkInsert(t, d, entryOf("s", strokesOf("T")...), dict("S", "s", "S/T", "st", "T", "s"), true)
	checkInsert(t, d, entryOf("t", strokesOf("T")...), d, true)
}

func TestAPrefixAndTheLongerOutline(t *testing.T) {
	short, long := entryOf("cat", strokesOf("KAT")...), entryOf("cat {^s}", strokesOf("KAT/-S")...)
	both := dictionary(short, long)
	checkDictionary(t, both)
	checkInsert(t, dictionary(short), long, both, true)
	checkInsert(t, dictionary(long), short, both, true)
	checkDelete(t, both, short.Outline, dictionary(long), true)
	checkDelete(t, both, long.Outline, dictionary(short), true)
	for _, alone := range []impl.Entry{short, long} {
		other := both.Entries[0].Outline
		if len(alone.Outline) == 1 {
			other = both.Entries[1].Outline
		}
		checkLookup(t, dictionary(alone), other, "")
		checkDelete(t, dictionary(alone), other, noDictionary, false)
	}
	checkNoDictionary(t, dictionary(long, short))
}

// All prefixes of an outline, in each of several orders.
func TestManyPrefixes(t *testing.T) {
	o := []int{7, 7, 9, 7, 1, largestStroke}
	r := rand.New(rand.NewSource(6))
	for range 200 {
		var d impl.Dictionary
		for _, n := range r.Perm(6) {
			e := entryOf(fmt.Sprint("p", n), o[:n+1]...)
			checkLookup(t, d, e.Outline, "")
			checkInsert(t, d, e, with(d, e), true)
			d = with(d, e)
			checkDictionary(t, d)
		}
		for _, n := range r.Perm(6) {
			checkDelete(t, d, o[:n+1], without(d, o[:n+1]), true)
			d = without(d, o[:n+1])
			checkDictionary(t, d)
		}
	}
}

func TestAFullDictionary(t *testing.T) {
	full := numbered(40)
	for i := range 41 {
		checkInsert(t, full, entryOf("new", 10*i+5), noDictionary, false)
		checkInsert(t, full, entryOf("new", 10*i+5, 1, 1, 1, 1, 1), noDictionary, false)
		checkInsert(t, numbered(39), entryOf("new", 10*i+5), with(numbered(39), entryOf("new", 10*i+5)), true)
	}
	checkInsert(t, full, entryOf("new", 1), noDictionary, false)
	checkInsert(t, full, entryOf("new", 10, 1), noDictionary, false)
	checkInsert(t, full, entryOf("new", 20), noDictionary, false)
	checkInsert(t, full, entryOf("new", largestStroke), noDictionary, false)
	for i, e := range full.Entries {
		replaced := numbered(40)
		replaced.Entries[i].Text = "new {^s}"
		checkInsert(t, full, entryOf("new {^s}", e.Outline...), replaced, true)
		checkInsert(t, full, e, full, true)
		checkInsert(t, full, entryOf("{", e.Outline...), noDictionary, false)
	}
}

func TestDeleteFromAFullDictionaryAndInsertAnother(t *testing.T) {
	full := numbered(40)
	for _, e := range full.Entries {
		checkDelete(t, full, e.Outline, without(full, e.Outline), true)
		rest, _ := impl.Delete(full, e.Outline)
		for _, another := range []impl.Entry{e, entryOf("new", 1), entryOf("new", 205), entryOf("new", largestStroke)} {
			checkInsert(t, rest, another, with(rest, another), true)
			again, _ := impl.Insert(rest, another)
			checkInsert(t, again, entryOf("new", 7, 7), noDictionary, false)
		}
	}
}

func TestDelete(t *testing.T) {
	d := dict("S", "s", "S/T", "st", "T", "t", "K", "k")
	checkDelete(t, d, strokesOf("S"), dict("S/T", "st", "T", "t", "K", "k"), true)
	checkDelete(t, d, strokesOf("S/T"), dict("S", "s", "T", "t", "K", "k"), true)
	checkDelete(t, d, strokesOf("T"), dict("S", "s", "S/T", "st", "K", "k"), true)
	checkDelete(t, d, strokesOf("K"), dict("S", "s", "S/T", "st", "T", "t"), true)
	once, _ := impl.Delete(d, strokesOf("T"))
	checkDelete(t, once, strokesOf("T"), noDictionary, false)
	checkLookup(t, once, strokesOf("T"), "")
}

func checkNotThere(t *testing.T, d impl.Dictionary, outlines ...[]int) {
	t.Helper()
	for _, o := range outlines {
		checkLookup(t, d, o, "")
		checkDelete(t, d, o, noDictionary, false)
	}
}

func TestOutlinesThatAreNotThere(t *testing.T) {
	checkNotThere(t, dict("S/T/K", "a", "T", "b"), strokesOf("S"), strokesOf("S/T"), strokesOf("S/T/K/P"), strokesOf("K"), strokesOf("T/T"),
		strokesOf("T/S"), strokesOf("S/K/T"), strokesOf("K/T/S"), strokesOf("T/K"), strokesOf("#"), strokesOf("-Z"), strokesOf("STK"))
	d := numbered(40)
	for _, e := range d.Entries {
		longer, other := append(slices.Clone(e.Outline), 1), slices.Clone(e.Outline)
		other[len(other)-1] += 2
		checkNotThere(t, d, longer, other)
	}
	for _, o := range validOutlines() {
		checkNotThere(t, numbered(3), o)
	}
}

// Each of these outlines begins with one that is there, or has the same lowest bits.
func TestInvalidOutlinesThatAreAlmostThere(t *testing.T) {
	d := dictionary(entryOf("a", 1, 2, 3, 4, 5, 6), entryOf("b", 2), entryOf("c", 2, 5), entryOf("d", largestStroke))
	checkNotThere(t, d, nil, []int{}, []int{0}, []int{2, 0}, []int{0, 2}, []int{2, 5, 0}, []int{2, 0, 5}, []int{2, 0, 0, 0, 0, 0}, []int{2, 0, 0, 0, 0, 0, 0},
		[]int{2, 5, 0, 0, 0, 0}, []int{2, 5, 0, 0, 0, 0, 0}, []int{1, 2, 3, 4, 5, 6, 7}, []int{1, 2, 3, 4, 5, 6, 0}, []int{1, 2, 3, 4, 5, 6, 1, 2, 3, 4, 5, 6},
		[]int{2 + 1<<23}, []int{2 + 1<<32}, []int{-2}, []int{2, 5 + 1<<23}, []int{2, -5}, []int{-1}, []int{largestStroke + 1}, make([]int, 6), make([]int, 7))
	for _, o := range notOutlines() {
		checkNotThere(t, d, o)
		checkNotThere(t, noDictionary, o)
		checkInsert(t, d, entryOf("a", o...), noDictionary, false)
	}
}

func TestReverseLookup(t *testing.T) {
	d := dict("S", "cat", "S/T", "dog", "T", "cat", "T/S", "cat {^s}", "K", "dog", "K/K", "cat")
	checkReverse(t, d, "cat", [][]int{{2}, {4}, {8, 8}}, true)
	checkReverse(t, d, "dog", [][]int{{2, 4}, {8}}, true)
	checkReverse(t, d, "cat {^s}", [][]int{{4, 2}}, true)
	for _, text := range append([]string{"ca", "cats", "CAT", "t", "cat ", " cat", "cat\n", "{^s}", "s", "dog cat", "S", "S/T"}, invalidTexts...) {
		checkReverse(t, d, text, nil, true)
		checkReverse(t, noDictionary, text, nil, true)
	}
	var all [][]int
	for i := 1; i <= 40; i++ {
		all = append(all, []int{i})
	}
	var same impl.Dictionary
	for _, o := range all {
		same.Entries = append(same.Entries, entryOf("same", o...))
	}
	checkReverse(t, same, "same", all, true)
}

func TestLongestOutline(t *testing.T) {
	checkLongest(t, noDictionary, 0, true)
	for n := 1; n <= 6; n++ {
		long := entryOf("long", slices.Repeat([]int{50}, n)...)
		checkLongest(t, dictionary(long), n, true)
		checkLongest(t, with(dict("#", "first", "-Z", "last"), long), n, true)
		checkLongest(t, dictionary(entryOf("a", slices.Repeat([]int{1}, n)...), entryOf("b", 2), entryOf("c", 3)), n, true)
		checkLongest(t, dictionary(entryOf("b", 1), entryOf("c", 2), entryOf("a", slices.Repeat([]int{3}, n)...)), n, true)
	}
	checkLongest(t, dict("S/T/K", "a", "T", "b", "K/P", "c"), 3, true)
}

// textOfLength returns n entries whose text has the given length, in lines of about the same one.
func textOfLength(t *testing.T, n, strokes, total int) impl.Dictionary {
	t.Helper()
	var d impl.Dictionary
	for i := range n {
		o := append([]int{largestStroke - n + i}, slices.Repeat([]int{largestStroke}, strokes-1)...)
		line := total*(i+1)/n - total*i/n
		text := notationsOf(wordsOfTotal(4, line-len(notationOf(o))-2))
		d.Entries = append(d.Entries, entryOf(text, o...))
	}
	if len(expectedText(d)) != total || !expectedDictionary(d) {
		t.Fatal("not what the test needs", len(expectedText(d)), shownDictionary(d))
	}
	return d
}

func TestTextsOfDictionariesAtTheLimit(t *testing.T) {
	for _, shape := range []struct{ n, strokes int }{{40, 2}, {30, 4}, {20, 6}} {
		for total := 3990; total <= 4000; total++ {
			d := textOfLength(t, shape.n, shape.strokes, total)
			checkFormatDictionary(t, d, expectedText(d), true)
			checkParseDictionary(t, expectedText(d), d, true)
		}
		for total := 4001; total <= 4003; total++ {
			d := textOfLength(t, shape.n, shape.strokes, total)
			checkFormatDictionary(t, d, "", false)
			checkNoText(t, expectedText(d))
			checkDictionary(t, d)
		}
	}
	checkDictionary(t, textOfLength(t, 40, 6, 8000))
}

// A text that is too long for FormatDictionary does not hinder the other functions.
func TestInsertUpToATextThatIsTooLong(t *testing.T) {
	d := textOfLength(t, 20, 6, 4000)
	e := entryOf("a", 1)
	checkInsert(t, d, e, with(d, e), true)
	checkDictionary(t, with(d, e))
	checkDelete(t, with(d, e), e.Outline, d, true)
}

func TestParseDictionary(t *testing.T) {
	checkParseDictionary(t, "", noDictionary, true)
	checkParseDictionary(t, "KAT cat\n-S {^s}\n", dict("KAT", "cat", "-S", "{^s}"), true)
	checkParseDictionary(t, "S a b c\nS/S {un^} do {^ing}\nT .\n", dict("S", "a b c", "S/S", "{un^} do {^ing}", "T", "."), true)
	checkParseDictionary(t, "S/T/K/P/W/H a b c d e f g h i j\n", dict("S/T/K/P/W/H", "a b c d e f g h i j"), true)
	checkParseDictionary(t, "KAT KAT\n", dict("KAT", "KAT"), true)
	checkParseDictionary(t, "S S/S\nT -S\nK / T {^s}\n", dict("S", "S/S", "T", "-S", "K", "/ T {^s}"), true)
}

func TestTextsWithoutALastNewline(t *testing.T) {
	checkNoText(t, "KAT cat", "S a\nT b", "S a\nT b\nK", "S a\nT b\nK ", "S", "a", " ", "S ", "S a\n ", "S a\n\t", "S a\r", "S a\n\x00", "S a\x0b", "S a\x0c", "S a\u2028")
	text := expectedText(numbered(30))
	for n := range len(text) {
		if text[n] != '\n' {
			checkNoText(t, text[:n+1])
		}
	}
	checkNoText(t, strings.TrimSuffix(text, "\n"))
}

func TestTextsWithAnEmptyLine(t *testing.T) {
	checkNoText(t, "\n", "\n\n", "\nS a\n", "S a\n\n", "S a\n\nT b\n", "S a\nT b\n\n", "\n\nS a\n", "S a\n\n\nT b\n", "S a\n \n", " \n", "\r\n", "S a\r\n")
}

func TestLinesWithoutASpace(t *testing.T) {
	checkNoText(t, "KAT\n", "KAT/-S\n", "KATcat\n", "cat\n", "S a\nT\n", "S\nT b\n", "S/a\n", "S\ta\n", "S\u00a0a\n", "S-a\n", "{^s}\n", "S{^s}\n")
}

func TestLinesWithTooManySpaces(t *testing.T) {
	checkNoText(t, "KAT  cat\n", "KAT cat \n", " KAT cat\n", "KAT   cat\n", "KAT a  b\n", "KAT \n", "KAT  \n", " KAT\n", " cat\n", "S a\n T b\n", "S a\nT  b\n", "S a \nT b\n", "S/ T a\n")
}

func TestLinesOutOfOrder(t *testing.T) {
	checkNoText(t, "-S {^s}\nKAT cat\n", "KAT cat\nKAT cat\n", "KAT cat\nKAT dog\n", "S/S a\nS b\n", "T b\nS a\n", "S a\nT b\nS c\n", "S a\nK b\nT c\n", "S a\nT b\nT c\n", "KAT cat\n-S {^s}\nKAT cat\n")
	d := numbered(12)
	for i := range d.Entries {
		for k := range i {
			swapped := slices.Clone(d.Entries)
			swapped[i], swapped[k] = swapped[k], swapped[i]
			checkNoText(t, expectedText(dictionary(swapped...)))
		}
	}
}

func TestLinesWithAnInvalidOutline(t *testing.T) {
	for _, notation := range []string{
		"", "/", "S/", "/S", "S//S", "S/S/S/S/S/S/S", "KA-T", "TS", "F", "S-", "-", "A-F", "SS", "kat", "X", "1", "S,T", "S\\T", "{S}", "S\x00", "\x00", "#Z", "STS", strings.Repeat("S/", 500) + "S",
	} {
		checkNoText(t, notation+" a\n", "# a\n"+notation+" b\n", notation+" a\n-Z b\n", "# a\n"+notation+" b\n-Z c\n")
	}
}

func TestLinesWithAnInvalidTranslation(t *testing.T) {
	for _, text := range invalidTexts {
		checkNoText(t, "S "+text+"\n", "# a\nS "+text+"\n", "S "+text+"\nT a\n", "# a\nS "+text+"\nT b\n")
	}
	for _, text := range validTexts {
		checkParseDictionary(t, "# a\nS "+text+"\nT b\n", dict("#", "a", "S", text, "T", "b"), true)
	}
}

func TestMoreLinesThanMayBe(t *testing.T) {
	for n := 35; n <= 40; n++ {
		checkParseDictionary(t, expectedText(numbered(n)), numbered(n), true)
	}
	for _, n := range []int{41, 42, 43, 60, 80, 100} {
		checkNoText(t, expectedText(numbered(n)))
	}
}

func TestLongTextsOfDictionaries(t *testing.T) {
	for _, part := range []string{"S a\n", "S", " ", "a", "\n", "S a", "S/", "a ", "\x00", "\xff", "{", "KAT cat\n", "S \n"} {
		long := strings.Repeat(part, 100000)
		checkNoText(t, long, long+"\n", "S a\n"+long, "S a\n"+long+"\n", "S "+long+"\n", long+" a\n")
		for n := 3990; n <= 4010; n++ {
			checkNoText(t, (long + long)[:n], "S a\n"+long[:n-4])
		}
	}
}

func checkAllTexts(t *testing.T, texts []string) {
	t.Helper()
	for _, text := range texts {
		want, wantOK := expectedParse(text)
		checkParseDictionary(t, text, want, wantOK)
		if wantOK {
			checkFormatDictionary(t, want, text, true)
		}
	}
}

// Every string of a few characters at which lines, outlines and texts go apart.
func TestAllShortTextsOfDictionaries(t *testing.T) {
	checkAllTexts(t, stringsOver("S a\n", 8))
	checkAllTexts(t, stringsOver("ST \n", 8))
	checkAllTexts(t, stringsOver("S/-a \n", 6))
	checkAllTexts(t, stringsOver("#{.} \n", 6))
	var lines []string
	for _, line := range stringsOver("ST/ ", 4) {
		lines = append(lines, line+" a\n", "S a\n"+line+" a\n", line+" a\nT a\n", "S a\n"+line+"a\nT/T a\n")
	}
	checkAllTexts(t, lines)
}

// What is changed is mostly no dictionary any more, or another one.
func TestTextsOfDictionariesWithOneChangedByte(t *testing.T) {
	for _, text := range []string{
		"KAT cat\nKAT/-S cat {^s}\n-S {^s}\n", "# a\nS {un^} do {^ing}\nS/-S a b\nT {.} {-|}\n", expectedText(numbered(4)),
	} {
		var changed []string
		for i := range len(text) {
			for c := range 256 {
				changed = append(changed, text[:i]+string([]byte{byte(c)})+text[i+1:])
			}
			for _, more := range []string{"", " ", "\n", "/", "-", "S", "a", "}"} {
				changed = append(changed, text[:i]+more+text[i+1:], text[:i]+more+text[i:])
			}
		}
		checkAllTexts(t, changed)
	}
}

// randomOutlineOfFew makes outlines meet and be prefixes of each other.
func randomOutlineOfFew(r *rand.Rand) []int {
	o := make([]int, 1+r.Intn(1+r.Intn(6)))
	for i := range o {
		o[i] = []int{1, 2, 3, 1 << 13, largestStroke}[r.Intn(5)]
	}
	return o
}

func randomEntry(r *rand.Rand) impl.Entry {
	o := randomOutlineOfFew(r)
	if r.Intn(3) == 0 {
		o = randomOutline(r)
	}
	return entryOf(validTexts[r.Intn(len(validTexts))], o...)
}

func randomDictionary(r *rand.Rand, n int) impl.Dictionary {
	var d impl.Dictionary
	for len(d.Entries) < n {
		d = with(d, randomEntry(r))
	}
	return d
}

// checkPromise6 inserts e into d and looks at all entries before and after.
func checkPromise6(t *testing.T, d impl.Dictionary, e impl.Entry) {
	t.Helper()
	after, ok := impl.Insert(d, e)
	if !ok {
		t.Fatalf("Insert(%s, %v) failed", shownDictionary(d), e)
	}
	checkIsDictionary(t, after, true)
	checkLookup(t, after, e.Outline, e.Text)
	for _, other := range without(d, e.Outline).Entries {
		checkLookup(t, after, other.Outline, other.Text)
	}
	text, found := impl.Lookup(d, e.Outline)
	if !found {
		checkDelete(t, after, e.Outline, d, true)
		return
	}
	checkDelete(t, after, e.Outline, without(d, e.Outline), true)
	checkInsert(t, after, entryOf(text, e.Outline...), d, true)
}

func TestDeletionUndoesInsertion(t *testing.T) {
	r := rand.New(rand.NewSource(66))
	for n := range 40 {
		for range 10 {
			checkPromise6(t, randomDictionary(r, n), randomEntry(r))
		}
	}
}

func TestReplacementUndoesReplacement(t *testing.T) {
	r := rand.New(rand.NewSource(67))
	for _, n := range []int{1, 2, 7, 39, 40} {
		d := randomDictionary(r, n)
		for _, e := range d.Entries {
			checkPromise6(t, d, e)
			checkPromise6(t, d, entryOf("replaced", e.Outline...))
		}
	}
}

// The dictionary of the program is compared with one that is sorted anew at every step.
func TestRandomInsertionsAndDeletions(t *testing.T) {
	r := rand.New(rand.NewSource(666))
	var d impl.Dictionary
	refused := 0
	for range 4000 {
		e := randomEntry(r)
		want := with(d, e)
		switch {
		case r.Intn(20) == 0 && len(d.Entries) > 0:
			e = d.Entries[r.Intn(len(d.Entries))]
			checkDelete(t, d, e.Outline, without(d, e.Outline), true)
			d, _ = impl.Delete(d, e.Outline)
		case len(want.Entries) > 40:
			refused++
			checkInsert(t, d, e, noDictionary, false)
			checkDelete(t, d, e.Outline, noDictionary, false)
		default:
			checkInsert(t, d, e, want, true)
			d, _ = impl.Insert(d, e)
		}
		checkLookup(t, d, e.Outline, expectedLookup(d, e.Outline))
	}
	checkDictionary(t, d)
	if refused < 500 || refused > 3500 {
		t.Error("the dictionaries do not try both sides of the limit", refused)
	}
}

func expectedLookup(d impl.Dictionary, o []int) string {
	for _, e := range d.Entries {
		if slices.Equal(e.Outline, o) {
			return e.Text
		}
	}
	return ""
}

func TestRandomDictionariesRoundTrip(t *testing.T) {
	r := rand.New(rand.NewSource(6666))
	for n := range 41 {
		for range 5 {
			checkDictionary(t, randomDictionary(r, n))
		}
	}
}

// The outlines of the argument share memory with each other and with the entry; those of the
// result must not.
func TestArgumentsWhoseOutlinesShareMemory(t *testing.T) {
	o := []int{1, 2, 3, 4, 5, 6}
	d := dictionary(entryOf("a", o[:1]...), entryOf("a", o[:3]...), entryOf("a", o[:6]...), entryOf("a", o[1:3]...), entryOf("a", o[2:3]...))
	for _, e := range []impl.Entry{entryOf("b", o[:2]...), entryOf("b", o[:3]...), entryOf("b", o[4:6]...), d.Entries[4]} {
		after, _ := impl.Insert(d, e)
		checkIsDictionary(t, after, true)
		overwriteDictionary(t, "Insert", after)
	}
	after, _ := impl.Delete(d, d.Entries[1].Outline)
	checkIsDictionary(t, after, true)
	overwriteDictionary(t, "Delete", after)
	outlines, _ := impl.ReverseLookup(d, "a")
	overwrite(t, "ReverseLookup", outlines)
	checkStrokes(t, o, 1, 2, 3, 4, 5, 6)
	checkDictionary(t, d)
}

func TestParsedDictionariesAreNewMemory(t *testing.T) {
	text := "S a\nS/S b\nT a\n"
	first, _ := impl.ParseDictionary(text)
	second, _ := impl.ParseDictionary(text)
	overwriteDictionary(t, "ParseDictionary", first)
	if !sameEntries(second, dict("S", "a", "S/S", "b", "T", "a")) {
		t.Error("shared", second)
	}
	checkParseDictionary(t, text, second, true)
}
