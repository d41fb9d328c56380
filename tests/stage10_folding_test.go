package tests

import (
	"fmt"
	"math"
	"math/rand"
	"regexp"
	"slices"
	"strings"
	"testing"

	"loop.example/g00882/impl"
)

// Promise 10: unfolding inverts folding, explicit entries take precedence, and expansion agrees
// with folded lookup. Promise 26, for chapter 10: every function returns for all arguments and
// modifies none of them.

func fold(key int, suffix string) impl.Fold { return impl.Fold{Key: key, Suffix: suffix} }

func foldsOf(l ...impl.Fold) []impl.Fold { return l }

// exampleFolds are the default folds as the document lists them.
func exampleFolds() []impl.Fold {
	return foldsOf(fold(18, "ing"), fold(21, "ed"), fold(20, "s"), fold(22, "s"))
}

var goodSuffixes = []string{"a", "z", "s", "ed", "ing", "ness", "ments", "abcdef", "ulously", "stuvwxyz", "zzzzzzzz"}

var badSuffixes = []string{
	"", letters[:9], "zzzzzzzzz", letters, strings.Repeat("a", 256+3), strings.Repeat("s", 1<<16+1),
	"A", "Z", "ING", "Ing", "iNg", "inG", letters[:7] + "H", "0", "9", "1ng", "in9", letters[:7] + "8",
	" ", " ing", "in g", "ing ", "ing\n", "\ning", "\x00", "ing\x00", "'s", "-", "s.", "{^ing}", "{", "}", "^s", "`", "s{", "@", "[",
	"\u00e9", "s\u00e9", "\u017f", "\uff53", "\xe1", "\xff", "ing\x80",
}

// notRightKeys lists keys of the other banks and ints that are no keys, among them some whose
// lowest bits would be the key 18.
var notRightKeys = []int{
	0, 1, 7, 8, 11, 12, 23, 24, 31, 32, 18 + 32, 63, 64, 18 + 64, 18 + 128, 18 + 256, 18 + 1<<16, 1 << 31, 18 + 1<<32,
	-1, -5, -12, -13, -18, -19, -22, -23, 18 - 32, 18 - 64, 18 - 256, 18 - 1<<32, math.MaxInt, math.MinInt, math.MinInt + 18,
}

var suffixPattern = regexp.MustCompile(`^[a-z]{1,8}$`)

func expectedFold(f impl.Fold) bool {
	rightBank := []int{13, 14, 15, 16, 17, 18, 19, 20, 21, 22}
	return slices.Contains(rightBank, f.Key) && suffixPattern.MatchString(f.Suffix)
}

// expectedFolds counts the different keys.
func expectedFolds(folds []impl.Fold) bool {
	keys := map[int]bool{}
	for _, f := range folds {
		if !expectedFold(f) {
			return false
		}
		keys[f.Key] = true
	}
	return len(keys) == len(folds) && len(folds) <= 6
}

// withLast replaces the last stroke of o.
func withLast(o []int, last int) []int { return append(slices.Clone(o[:len(o)-1]), last) }

// expectedUnfold divides and subtracts. It returns nothing if the outline cannot be unfolded.
func expectedUnfold(o []int, key int) []int {
	last := o[len(o)-1]
	if last/of(key)%2 == 0 || last == of(key) {
		return nil
	}
	return withLast(o, last-of(key))
}

// expectedInto returns nothing if the key is there already.
func expectedInto(o []int, key int) []int {
	last := o[len(o)-1]
	if last/of(key)%2 == 1 {
		return nil
	}
	return withLast(o, last+of(key))
}

// expectedFoldedText is empty if the text or the result is no translation.
func expectedFoldedText(text, suffix string) string {
	folded := text + " {^" + suffix + "}"
	if len(expectedAtoms(text)) == 0 || len(expectedAtoms(folded)) == 0 {
		return ""
	}
	return folded
}

// expectedFolded asks of which entry a fold makes the outline, so that it takes nothing apart. The
// text is empty if there is none.
func expectedFolded(d impl.Dictionary, folds []impl.Fold, o []int) (string, int) {
	if text := expectedLookup(d, o); text != "" {
		return text, -1
	}
	for i, f := range folds {
		for _, e := range d.Entries {
			text := expectedFoldedText(e.Text, f.Suffix)
			if text != "" && slices.Equal(expectedInto(e.Outline, f.Key), o) {
				return text, i
			}
		}
	}
	return "", 0
}

func expectedOverrides(d impl.Dictionary, folds []impl.Fold) [][]int {
	var outlines [][]int
	for _, e := range d.Entries {
		overrides := slices.ContainsFunc(d.Entries, func(base impl.Entry) bool {
			return slices.ContainsFunc(folds, func(f impl.Fold) bool {
				return slices.Equal(expectedInto(base.Outline, f.Key), e.Outline)
			})
		})
		if overrides {
			outlines = append(outlines, e.Outline)
		}
	}
	return outlines
}

// expectedExpansion may have more entries than a dictionary.
func expectedExpansion(d impl.Dictionary, folds []impl.Fold) impl.Dictionary {
	all := dictionary(slices.Clone(d.Entries)...)
	for _, e := range d.Entries {
		for _, f := range folds {
			o := expectedInto(e.Outline, f.Key)
			if o == nil {
				continue
			}
			if text, by := expectedFolded(d, folds, o); text != "" && by >= 0 {
				all.Entries = append(all.Entries, entryOf(text, o...))
			}
		}
	}
	slices.SortFunc(all.Entries, func(a, b impl.Entry) int { return expectedOrder(a.Outline, b.Outline) })
	all.Entries = slices.CompactFunc(all.Entries, func(a, b impl.Entry) bool { return slices.Equal(a.Outline, b.Outline) })
	return all
}

// shownFolds spares the reader most of the longest lists and suffixes.
func shownFolds(folds []impl.Fold) string {
	text := fmt.Sprint(len(folds), " folds:")
	for _, f := range folds[:min(len(folds), 10)] {
		text += fmt.Sprintf(" %d %.20q", f.Key, f.Suffix)
	}
	return text
}

// withFolds lends folds with room behind the last one, where another valid fold stands.
func withFolds(t *testing.T, name string, folds []impl.Fold, f func(folds []impl.Fold)) {
	t.Helper()
	all := append(slices.Clone(folds), fold(18, "behind"), fold(14, "behind"), fold(0, ""), fold(-7, "Behind"))
	before := slices.Clone(all)
	f(all[:len(folds)])
	if !slices.Equal(all, before) {
		t.Fatalf("%s changed %s to %s", name, shownFolds(before), shownFolds(all))
	}
}

func checkIsFolds(t *testing.T, folds []impl.Fold, want bool) {
	t.Helper()
	withFolds(t, "IsValidFolds", folds, func(folds []impl.Fold) {
		if got := impl.IsValidFolds(folds); got != want {
			t.Errorf("IsValidFolds(%s) = %v", shownFolds(folds), got)
		}
	})
}

// checkRefolded runs Unfold or FoldInto twice, whose results must not share memory. It expects a
// failure if want is empty.
func checkRefolded(t *testing.T, name string, refold func([]int, impl.Fold) ([]int, bool), o []int, f impl.Fold, want []int) {
	t.Helper()
	l := lend(o)
	got, ok := refold(l.outline, f)
	again, _ := refold(l.outline, f)
	if !slices.Equal(got, want) || !slices.Equal(again, want) || ok != (len(want) > 0) {
		t.Errorf("%s(%s, %d, %.60q) = %s, %v; want %v", name, shown(o), f.Key, f.Suffix, shown(got), ok, want)
	}
	overwrite(t, name, [][]int{got, again})
	checkUnchanged(t, name, l)
}

func checkUnfold(t *testing.T, o []int, f impl.Fold, want ...int) {
	t.Helper()
	checkRefolded(t, "Unfold", impl.Unfold, o, f, want)
}

func checkFoldInto(t *testing.T, o []int, f impl.Fold, want ...int) {
	t.Helper()
	checkRefolded(t, "FoldInto", impl.FoldInto, o, f, want)
}

// checkFoldedText expects a failure if want is empty.
func checkFoldedText(t *testing.T, text string, f impl.Fold, want string) {
	t.Helper()
	if got, ok := impl.FoldedText(text, f); got != want || ok != (want != "") {
		t.Errorf("FoldedText(%.100q, %d, %.60q) = %.100q, %v; want %q", text, f.Key, f.Suffix, got, ok, want)
	}
}

// withBoth lends a dictionary and a fold list.
func withBoth(t *testing.T, name string, d impl.Dictionary, folds []impl.Fold, f func(d impl.Dictionary, folds []impl.Fold)) {
	t.Helper()
	withDictionary(t, name, d, func(d impl.Dictionary) {
		withFolds(t, name, folds, func(folds []impl.Fold) { f(d, folds) })
	})
}

// checkFolded expects a failure if want is empty.
func checkFolded(t *testing.T, d impl.Dictionary, folds []impl.Fold, o []int, want string, wantFold int) {
	t.Helper()
	withBoth(t, "LookupFolded", d, folds, func(d impl.Dictionary, folds []impl.Fold) {
		l := lend(o)
		if got, i, ok := impl.LookupFolded(d, folds, l.outline); got != want || i != wantFold || ok != (want != "") {
			t.Errorf("LookupFolded(%s, %s, %s) = %.100q, %d, %v; want %q, %d", shownDictionary(d), shownFolds(folds), shown(o), got, i, ok, want, wantFold)
		}
		checkUnchanged(t, "LookupFolded", l)
	})
}

func checkOverrides(t *testing.T, d impl.Dictionary, folds []impl.Fold, want [][]int, wantOK bool) {
	t.Helper()
	withBoth(t, "FoldOverrides", d, folds, func(d impl.Dictionary, folds []impl.Fold) {
		got, ok := impl.FoldOverrides(d, folds)
		again, _ := impl.FoldOverrides(d, folds)
		if !slices.EqualFunc(got, want, slices.Equal[[]int]) || ok != wantOK {
			t.Errorf("FoldOverrides(%s, %s) = %v, %v; want %v, %v", shownDictionary(d), shownFolds(folds), got, ok, want, wantOK)
		}
		overwrite(t, "FoldOverrides", slices.Concat(got, again))
	})
}

func checkExpand(t *testing.T, d impl.Dictionary, folds []impl.Fold, want impl.Dictionary, wantOK bool) {
	t.Helper()
	withBoth(t, "ExpandFolds", d, folds, func(d impl.Dictionary, folds []impl.Fold) {
		got, ok := impl.ExpandFolds(d, folds)
		again, _ := impl.ExpandFolds(d, folds)
		if !sameEntries(got, want) || ok != wantOK {
			t.Errorf("ExpandFolds(%s, %s) = %s, %v; want %s, %v", shownDictionary(d), shownFolds(folds), shownDictionary(got), ok, shownDictionary(want), wantOK)
		}
		overwriteDictionary(t, "ExpandFolds", got)
		if !sameEntries(again, want) {
			t.Errorf("ExpandFolds(%s, %s) returned the same memory twice", shownDictionary(d), shownFolds(folds))
		}
	})
}

// checkExpansion returns the number of entries that the second reading finds.
func checkExpansion(t *testing.T, d impl.Dictionary, folds []impl.Fold) int {
	t.Helper()
	want := expectedExpansion(d, folds)
	if len(want.Entries) > 40 {
		checkExpand(t, d, folds, noDictionary, false)
	} else {
		checkExpand(t, d, folds, want, true)
	}
	return len(want.Entries)
}

func checkExpandedTo(t *testing.T, d impl.Dictionary, folds []impl.Fold, n int) {
	t.Helper()
	if got := checkExpansion(t, d, folds); got != n {
		t.Errorf("the second reading makes %d entries of %s, not %d", got, shownDictionary(d), n)
	}
}

// outlinesAround lists the outlines of d and all that lie one or two folded keys away from them.
func outlinesAround(d impl.Dictionary, folds []impl.Fold) [][]int {
	var near [][]int
	for _, e := range d.Entries {
		near = append(near, e.Outline)
	}
	for range 2 {
		for _, o := range slices.Clone(near) {
			for _, f := range folds {
				near = append(near, expectedUnfold(o, f.Key), expectedInto(o, f.Key))
			}
		}
		near = slices.DeleteFunc(near, func(o []int) bool { return o == nil })
		slices.SortFunc(near, slices.Compare[[]int])
		near = slices.CompactFunc(near, slices.Equal[[]int])
	}
	return near
}

// checkFolding asks all functions that take a valid dictionary and a fold list.
func checkFolding(t *testing.T, d impl.Dictionary, folds []impl.Fold) {
	t.Helper()
	checkOverrides(t, d, folds, expectedOverrides(d, folds), true)
	checkExpansion(t, d, folds)
	for _, o := range append(outlinesAround(d, folds), []int{7777}, []int{1, of(18)}) {
		text, by := expectedFolded(d, folds, o)
		checkFolded(t, d, folds, o, text, by)
	}
}

// checkNoFolding expects that d or folds is invalid.
func checkNoFolding(t *testing.T, d impl.Dictionary, folds []impl.Fold, outlines ...[]int) {
	t.Helper()
	checkOverrides(t, d, folds, nil, false)
	checkExpand(t, d, folds, noDictionary, false)
	for _, o := range outlines {
		checkFolded(t, d, folds, o, "", 0)
	}
}

// checkNoFold gives an invalid fold alone to every function, and among valid folds. The entries
// have translations of their own and would be unfolded by the other folds.
func checkNoFold(t *testing.T, f impl.Fold) {
	t.Helper()
	for _, o := range [][]int{{1}, {of(0, 18)}, {of(0, 19)}, {of(0, 18, 19)}, {largestStroke}, {2, of(18, 19)}, {1, 1, 1, 1, 1, of(3, 19)}} {
		checkUnfold(t, o, f)
		checkFoldInto(t, o, f)
	}
	for _, text := range []string{"walk", "a b c", "", "{"} {
		checkFoldedText(t, text, f, "")
	}
	d := dictionary(entryOf("walk", 1), entryOf("woke", of(0, 18)))
	for i := range 5 {
		folds := slices.Insert(exampleFolds(), i, f)
		checkIsFolds(t, folds, false)
		checkNoFolding(t, d, folds, []int{1}, []int{of(0, 18)}, []int{of(0, 21)})
	}
	checkIsFolds(t, foldsOf(f), false)
	checkNoFolding(t, d, foldsOf(f), []int{1}, []int{of(0, 18)}, []int{of(0, 19)})
	checkNoFolding(t, noDictionary, foldsOf(f), []int{1})
}

func TestConstantOfChapter10(t *testing.T) {
	if impl.MaxFolds != 6 {
		t.Error("folds", impl.MaxFolds)
	}
}

func TestTheExamplesOfFolding(t *testing.T) {
	if of(0, 18) != 262145 {
		t.Error("the stroke of the examples", of(0, 18))
	}
	d, ing := dictionary(entryOf("walk", 1)), fold(18, "ing")
	checkUnfold(t, []int{262145}, ing, 1)
	checkFoldInto(t, []int{1}, ing, 262145)
	checkFoldedText(t, "walk", ing, "walk {^ing}")
	checkFolded(t, d, exampleFolds(), []int{262145}, "walk {^ing}", 0)
	checkFolded(t, d, exampleFolds(), []int{1}, "walk", -1)
	checkOverrides(t, d, exampleFolds(), nil, true)
	checkExpand(t, d, exampleFolds(), dictionary(entryOf("walk", 1), entryOf("walk {^ing}", of(0, 18)),
		entryOf("walk {^s}", of(0, 20)), entryOf("walk {^ed}", of(0, 21)), entryOf("walk {^s}", of(0, 22))), true)
	d = dictionary(entryOf("walk", 1), entryOf("woke", 262145))
	checkOverrides(t, d, exampleFolds(), [][]int{{262145}}, true)
}

func TestDefaultFolds(t *testing.T) {
	first, second := impl.DefaultFolds(), impl.DefaultFolds()
	if !slices.Equal(first, exampleFolds()) {
		t.Error(first)
	}
	for i := range cap(first) {
		first[:cap(first)][i] = fold(-7, "overwritten")
	}
	if !slices.Equal(second, exampleFolds()) || !slices.Equal(impl.DefaultFolds(), exampleFolds()) {
		t.Error("shared", second, impl.DefaultFolds())
	}
	checkIsFolds(t, exampleFolds(), true)
}

func TestKeysOfFolds(t *testing.T) {
	for key := 13; key <= 22; key++ {
		checkIsFolds(t, foldsOf(fold(key, "ing")), true)
		checkUnfold(t, []int{of(0, key)}, fold(key, "ing"), 1)
		checkFoldInto(t, []int{1}, fold(key, "ing"), of(0, key))
		checkFoldedText(t, "walk", fold(key, "ing"), "walk {^ing}")
		checkFolding(t, dictionary(entryOf("walk", 1)), foldsOf(fold(key, "ing")))
	}
	for _, key := range notRightKeys {
		checkNoFold(t, fold(key, "ing"))
	}
	for key := -70; key < 150; key++ {
		checkIsFolds(t, foldsOf(fold(key, "s")), key >= 13 && key <= 22)
		checkIsFolds(t, foldsOf(fold(13, "ed"), fold(key, "s"), fold(22, "ed")), key >= 14 && key <= 21)
	}
	checkNoFold(t, impl.Fold{})
}

// The keys of the other banks are in the strokes, but no fold may take them out or put them in.
func TestKeysOfTheOtherBanksAreNotFolded(t *testing.T) {
	for key := range 13 {
		checkUnfold(t, []int{of(key, 18)}, fold(key, "ing"))
		checkFoldInto(t, []int{of(18)}, fold(key, "ing"))
		checkUnfold(t, []int{of(key, 18)}, fold(18, "ing"), of(key))
		checkFoldInto(t, []int{of(key)}, fold(18, "ing"), of(key, 18))
	}
}

func TestSuffixesOfFolds(t *testing.T) {
	for _, suffix := range goodSuffixes {
		for _, key := range []int{13, 18, 22} {
			checkIsFolds(t, foldsOf(fold(key, suffix)), true)
			checkUnfold(t, []int{2, of(0, key)}, fold(key, suffix), 2, 1)
			checkFoldInto(t, []int{2, 1}, fold(key, suffix), 2, of(0, key))
			checkFoldedText(t, "walk", fold(key, suffix), "walk {^"+suffix+"}")
		}
	}
	for n := range 12 {
		checkIsFolds(t, foldsOf(fold(18, letters[:n])), n >= 1 && n <= 8)
	}
	for _, suffix := range badSuffixes {
		checkNoFold(t, fold(19, suffix))
	}
}

// Every byte but the 26 small letters spoils a suffix, wherever it stands.
func TestEveryByteOfASuffix(t *testing.T) {
	for c := range 256 {
		b := string([]byte{byte(c)})
		good := strings.Contains(letters, b)
		for _, suffix := range []string{b, b + "g", "i" + b, "i" + b + "g", letters[:7] + b, b + letters[:7]} {
			f := fold(21, suffix)
			checkIsFolds(t, foldsOf(f), good)
			if good {
				checkUnfold(t, []int{of(0, 21)}, f, 1)
				checkFoldedText(t, "walk", f, "walk {^"+suffix+"}")
			} else {
				checkUnfold(t, []int{of(0, 21)}, f)
				checkFoldedText(t, "walk", f, "")
			}
		}
	}
}

// manyFolds returns folds with the last n keys, the last one first.
func manyFolds(n int) []impl.Fold {
	var folds []impl.Fold
	for i := range n {
		folds = append(folds, fold(22-i, goodSuffixes[i]))
	}
	return folds
}

func TestNumbersOfFolds(t *testing.T) {
	d := dictionary(entryOf("walk", 1), entryOf("woke", of(0, 18)))
	for n := range 11 {
		checkIsFolds(t, manyFolds(n), n <= 6)
		if n <= 6 {
			checkFolding(t, d, manyFolds(n))
		} else {
			checkNoFolding(t, d, manyFolds(n), []int{1}, []int{of(0, 18)}, []int{of(0, 22)})
		}
	}
	checkFolded(t, d, nil, []int{1}, "walk", -1)
	checkFolded(t, d, nil, []int{of(0, 22)}, "", 0)
	checkOverrides(t, d, nil, nil, true)
	checkExpand(t, d, nil, d, true)
	for _, n := range []int{7, 10, 256, 1<<16 + 4} {
		checkNoFolding(t, d, slices.Repeat(exampleFolds(), n), []int{1})
	}
	if !impl.IsValidFolds(nil) || !impl.IsValidFolds([]impl.Fold{}) {
		t.Error("the empty list")
	}
}

func TestAKeyTwiceInAFoldList(t *testing.T) {
	d := dictionary(entryOf("walk", 1), entryOf("woke", of(0, 18)))
	for n := 2; n <= 6; n++ {
		for i := range n {
			for k := range i {
				folds := manyFolds(n)
				folds[i].Key = folds[k].Key
				checkIsFolds(t, folds, false)
				checkNoFolding(t, d, folds, []int{1}, []int{of(0, 18)}, []int{of(0, 22)})
				folds[i].Suffix = folds[k].Suffix
				checkIsFolds(t, folds, false)
				folds[i].Key = 13
				checkIsFolds(t, folds, true)
				checkFolding(t, d, folds)
			}
		}
	}
}

// All strokes of the keys of the right bank, alone and with another key.
func TestOneKeyOfTheLastStroke(t *testing.T) {
	for right := 0; right < 1<<23; right += 1 << 13 {
		for _, last := range []int{right, right + 1, right + of(3, 8)} {
			if last == 0 {
				continue
			}
			for key := 13; key <= 22; key++ {
				f := fold(key, "ing")
				checkUnfold(t, []int{last}, f, expectedUnfold([]int{last}, key)...)
				checkFoldInto(t, []int{last}, f, expectedInto([]int{last}, key)...)
			}
		}
	}
}

func TestAStrokeOfTheFoldedKeyAlone(t *testing.T) {
	for key := 13; key <= 22; key++ {
		f := fold(key, "ing")
		for n := range 6 {
			for _, before := range []int{1, of(key), of(0, key), largestStroke} {
				o := append(slices.Repeat([]int{before}, n), of(key))
				checkUnfold(t, o, f)
				checkFoldInto(t, o, f)
			}
		}
		d := dictionary(entryOf("walk", 1), entryOf("talk", 1, 1))
		checkFolded(t, d, foldsOf(f), []int{of(key)}, "", 0)
		checkFolded(t, d, foldsOf(f), []int{1, of(key)}, "", 0)
		checkFolding(t, dictionary(entryOf("walk", of(key))), foldsOf(f))
		checkFolding(t, dictionary(entryOf("walk", of(key))), exampleFolds())
	}
}

// Only the last stroke is looked at, whatever the others have.
func TestOutlinesOfOneToSixStrokes(t *testing.T) {
	f := fold(20, "s")
	for n := range 6 {
		for _, before := range []int{1, of(20), of(0, 20), largestStroke} {
			o := slices.Repeat([]int{before}, n)
			lacks, among := append(slices.Clone(o), of(3, 8)), append(slices.Clone(o), of(3, 8, 20))
			checkUnfold(t, among, f, lacks...)
			checkFoldInto(t, lacks, f, among...)
			checkUnfold(t, lacks, f)
			checkFoldInto(t, among, f)
			checkFoldInto(t, append(slices.Clone(o), of(19)), f, append(slices.Clone(o), of(19, 20))...)
			d := dictionary(entryOf("walk", lacks...))
			checkFolded(t, d, foldsOf(f), among, "walk {^s}", 0)
			checkExpand(t, d, foldsOf(f), dictionary(entryOf("walk", lacks...), entryOf("walk {^s}", among...)), true)
			checkFolding(t, dictionary(entryOf("walk", among...)), exampleFolds())
		}
	}
	for key := 13; key <= 22; key++ {
		checkUnfold(t, []int{largestStroke}, fold(key, "s"), largestStroke-of(key))
		checkFoldInto(t, []int{largestStroke - of(key)}, fold(key, "s"), largestStroke)
	}
}

// Each outline is invalid alone: the fold, the fold list and the dictionary are valid.
func TestInvalidOutlinesAreNotFolded(t *testing.T) {
	d := dictionary(entryOf("one", 1), entryOf("two", 2), entryOf("ing", of(0, 18)))
	outlines := append(notOutlines(), []int{1<<23 + of(0, 18)}, []int{1<<32 + of(0, 18)}, []int{of(0, 18) - 1<<23}, []int{0, of(0, 18)},
		[]int{of(0, 18), 0}, []int{1 << 23, 1}, slices.Repeat([]int{of(0, 18)}, 7), []int{1, 2, 3, 4, 5, 6, of(0, 18)})
	for _, o := range outlines {
		for _, f := range append(exampleFolds(), fold(13, "a")) {
			checkUnfold(t, o, f)
			checkFoldInto(t, o, f)
		}
		checkFolded(t, d, exampleFolds(), o, "", 0)
		checkFolded(t, d, nil, o, "", 0)
		checkFolded(t, noDictionary, exampleFolds(), o, "", 0)
	}
}

func TestInvalidDictionariesAreNotFolded(t *testing.T) {
	for _, d := range invalidDictionaries() {
		for _, folds := range [][]impl.Fold{nil, exampleFolds()} {
			checkNoFolding(t, d, folds, d.Entries[0].Outline, []int{1}, []int{2}, []int{of(0, 18)}, []int{10})
		}
	}
	for _, text := range invalidTexts {
		d := dictionary(entryOf("walk", 1), entryOf(text, 2))
		checkNoFolding(t, d, exampleFolds(), []int{1}, []int{2}, []int{of(0, 18)})
	}
	for _, o := range notOutlines() {
		d := dictionary(entryOf("walk", 1), entryOf("talk", o...))
		checkNoFolding(t, d, exampleFolds(), []int{1}, o, []int{of(0, 18)})
	}
}

func checkInverse(t *testing.T, o []int, f impl.Fold) {
	t.Helper()
	last := o[len(o)-1]
	if longer, ok := impl.FoldInto(o, f); ok == impl.HasKey(last, f.Key) {
		t.Errorf("FoldInto(%v, %d) = %v, %v", o, f.Key, longer, ok)
	} else if back, _ := impl.Unfold(longer, f); ok && !slices.Equal(back, o) {
		t.Errorf("Unfold(%v, %d) = %v; FoldInto made it of %v", longer, f.Key, back, o)
	}
	if shorter, ok := impl.Unfold(o, f); ok != (impl.HasKey(last, f.Key) && last != of(f.Key)) {
		t.Errorf("Unfold(%v, %d) = %v, %v", o, f.Key, shorter, ok)
	} else if back, _ := impl.FoldInto(shorter, f); ok && !slices.Equal(back, o) {
		t.Errorf("FoldInto(%v, %d) = %v; Unfold made it of %v", shorter, f.Key, back, o)
	}
}

// Promise 10, its first part.
func TestUnfoldingInvertsFolding(t *testing.T) {
	r := rand.New(rand.NewSource(10))
	outlines := validOutlines()
	for last := 1; last <= largestStroke; last += 1 + r.Intn(3000) {
		outlines = append(outlines, []int{last}, withLast(randomOutlineOfFew(r), last))
	}
	for _, o := range outlines {
		for key := 13; key <= 22; key++ {
			checkInverse(t, o, fold(key, "s"))
		}
	}
}

func TestFoldedText(t *testing.T) {
	for _, suffix := range goodSuffixes {
		for _, text := range validTexts {
			checkFoldedText(t, text, fold(18, suffix), expectedFoldedText(text, suffix))
		}
		for _, text := range invalidTexts {
			checkFoldedText(t, text, fold(18, suffix), "")
		}
	}
	checkFoldedText(t, "{un^} do", fold(21, "ed"), "{un^} do {^ed}")
	checkFoldedText(t, "{^s}", fold(18, "ing"), "{^s} {^ing}")
	checkFoldedText(t, "{.} {-|}", fold(22, "s"), "{.} {-|} {^s}")
	checkFoldedText(t, "walk {^ing}", fold(18, "ing"), "walk {^ing} {^ing}")
	checkFoldedText(t, "walk ", fold(18, "ing"), "")
	checkFoldedText(t, "", fold(18, "ing"), "")
}

// longText returns words of n bytes. A suffix needs four bytes more than its letters: of 53 bytes
// "ing" makes just 60, of 54 bytes "ed", of 55 bytes "s", and 56 bytes are too many for them all.
func longText(n int) string { return notationsOf(wordsOfTotal(4, n)) }

func TestFoldedTextAtTheLimitOfBytes(t *testing.T) {
	for n := 1; n <= 8; n++ {
		f := fold(18, letters[:n])
		for words := 4; words <= 9; words++ {
			for total := 40; total <= 60; total++ {
				text := notationsOf(wordsOfTotal(words, total))
				if total+4+n <= 60 {
					checkFoldedText(t, text, f, text+" {^"+letters[:n]+"}")
				} else {
					checkFoldedText(t, text, f, "")
				}
			}
		}
		checkFolding(t, dictionary(entryOf(longText(56-n), 1), entryOf(longText(57-n), 2)), foldsOf(f))
		checkFolded(t, dictionary(entryOf(longText(56-n), 1)), foldsOf(f), []int{of(0, 18)}, longText(56-n)+" {^"+letters[:n]+"}", 0)
		checkFolded(t, dictionary(entryOf(longText(57-n), 1)), foldsOf(f), []int{of(0, 18)}, "", 0)
	}
	for i, f := range exampleFolds() {
		most := []int{53, 54, 55, 55}[i]
		checkFoldedText(t, longText(most), f, longText(most)+" {^"+f.Suffix+"}")
		checkFoldedText(t, longText(most+1), f, "")
	}
}

func TestFoldedTextAtTheLimitOfAtoms(t *testing.T) {
	for _, f := range exampleFolds() {
		for n := 1; n <= 9; n++ {
			text := strings.TrimSpace(strings.Repeat("a ", n))
			checkFoldedText(t, text, f, text+" {^"+f.Suffix+"}")
		}
		checkFoldedText(t, "a b c d e f g h i j", f, "")
		checkFoldedText(t, "a b c d e f g h i j k", f, "")
	}
	checkExpandedTo(t, dictionary(entryOf("a b c d e f g h i", 1), entryOf("a b c d e f g h i j", 2)), exampleFolds(), 6)
}

func reversed(folds []impl.Fold) []impl.Fold {
	back := slices.Clone(folds)
	slices.Reverse(back)
	return back
}

// The outline {0, 18, 21} is unfolded by "ing" to {0, 21} and by "ed" to {0, 18}.
func TestAnOutlineThatTwoFoldsUnfold(t *testing.T) {
	folds, both := foldsOf(fold(18, "ing"), fold(21, "ed")), []int{of(0, 18, 21)}
	pair := func(withG, withD string) impl.Dictionary {
		return dictionary(entryOf(withG, of(0, 18)), entryOf(withD, of(0, 21)))
	}
	none := pair(longText(55), longText(54))
	for _, x := range []struct {
		d               impl.Dictionary
		text            string
		by              int
		backwards       string
		byWhenBackwards int
	}{
		{pair("a", "b"), "b {^ing}", 0, "a {^ed}", 0},
		{dictionary(entryOf("a", of(0, 18))), "a {^ed}", 1, "a {^ed}", 0},
		{dictionary(entryOf("b", of(0, 21))), "b {^ing}", 0, "b {^ing}", 1},
		{pair("a", longText(54)), "a {^ed}", 1, "a {^ed}", 0},
		{pair("a", longText(53)), longText(53) + " {^ing}", 0, "a {^ed}", 0},
		{pair(longText(54), "b"), "b {^ing}", 0, longText(54) + " {^ed}", 0},
		{pair(longText(55), "b"), "b {^ing}", 0, "b {^ing}", 1},
		{none, "", 0, "", 0},
		{dictionary(entryOf("c", 1)), "", 0, "", 0},
		{dictionary(entryOf("c", of(18, 21))), "", 0, "", 0},
	} {
		checkFolded(t, x.d, folds, both, x.text, x.by)
		checkFolded(t, x.d, reversed(folds), both, x.backwards, x.byWhenBackwards)
		checkFolding(t, x.d, folds)
		checkFolding(t, x.d, reversed(folds))
	}
	// The index counts the folds that do not unfold the outline at all.
	six := foldsOf(fold(13, "a"), fold(14, "b"), fold(15, "c"), fold(18, "ing"), fold(16, "d"), fold(21, "ed"))
	checkFolded(t, pair("a", "b"), six, both, "b {^ing}", 3)
	checkFolded(t, dictionary(entryOf("a", of(0, 18))), six, both, "a {^ed}", 5)
}

// Neither a lookup nor an expansion folds two keys, or keys of two strokes.
func TestOnlyOneKeyIsFolded(t *testing.T) {
	d := dictionary(entryOf("walk", 1))
	for _, o := range [][]int{{of(0, 18, 21)}, {of(0, 20, 22)}, {of(0, 18, 20, 21, 22)}} {
		checkFolded(t, d, exampleFolds(), o, "", 0)
	}
	checkExpandedTo(t, d, exampleFolds(), 5)
	checkFolded(t, dictionary(entryOf("walk", 1, 1)), exampleFolds(), []int{of(0, 18), of(0, 18)}, "", 0)
}

func TestAnExplicitEntryTakesPrecedence(t *testing.T) {
	d := dictionary(entryOf("walk", 1), entryOf("woke", of(0, 18)))
	checkFolded(t, d, exampleFolds(), []int{of(0, 18)}, "woke", -1)
	checkFolded(t, d, exampleFolds(), []int{of(0, 21)}, "walk {^ed}", 1)
	checkFolded(t, d, exampleFolds(), []int{of(0, 18, 21)}, "woke {^ed}", 1)
	checkExpand(t, d, exampleFolds(), dictionary(entryOf("walk", 1), entryOf("woke", of(0, 18)), entryOf("walk {^s}", of(0, 20)),
		entryOf("woke {^s}", of(0, 18, 20)), entryOf("walk {^ed}", of(0, 21)), entryOf("woke {^ed}", of(0, 18, 21)),
		entryOf("walk {^s}", of(0, 22)), entryOf("woke {^s}", of(0, 18, 22))), true)
	// A text that cannot be folded is a translation of its own all the same.
	d = dictionary(entryOf("walk", 1), entryOf(longText(60), of(0, 18)))
	checkFolded(t, d, exampleFolds(), []int{of(0, 18)}, longText(60), -1)
	checkFolding(t, d, exampleFolds())
	// Here the texts are the same with and without the fold.
	d = dictionary(entryOf("walk", 1), entryOf("walk {^ing}", of(0, 18)))
	checkFolded(t, d, exampleFolds(), []int{of(0, 18)}, "walk {^ing}", -1)
	checkOverrides(t, d, exampleFolds(), [][]int{{of(0, 18)}}, true)
	checkExpandedTo(t, d, exampleFolds(), 8)
}

func TestFoldOverrides(t *testing.T) {
	d := dictionary(entryOf("a", 1), entryOf("b", 2), entryOf("c", of(18)), entryOf("d", of(0, 18)), entryOf("e", of(2, 18)), entryOf("f", of(0, 18, 21)))
	checkOverrides(t, d, exampleFolds(), [][]int{{of(0, 18)}, {of(0, 18, 21)}}, true)
	checkOverrides(t, d, foldsOf(fold(21, "ed")), [][]int{{of(0, 18, 21)}}, true)
	checkOverrides(t, d, foldsOf(fold(18, "ing")), [][]int{{of(0, 18)}}, true)
	checkOverrides(t, d, foldsOf(fold(20, "s")), nil, true)
	// An entry that two folds unfold to entries is listed once, and the order is that of outlines.
	d = dictionary(entryOf("a", 1), entryOf("b", 1, of(0, 18)), entryOf("c", 1, of(0, 20)), entryOf("d", 1, of(0, 18, 20)),
		entryOf("e", of(0, 18)), entryOf("f", of(0, 18), of(0, 18)), entryOf("g", of(0, 18), of(0, 18, 22)))
	overriding := [][]int{{1, of(0, 18, 20)}, {of(0, 18)}, {of(0, 18), of(0, 18, 22)}}
	checkOverrides(t, d, exampleFolds(), overriding, true)
	checkOverrides(t, d, reversed(exampleFolds()), overriding, true)
	checkOverrides(t, noDictionary, exampleFolds(), nil, true)
	checkOverrides(t, dictionary(entryOf("a", 1)), exampleFolds(), nil, true)
	// It does not matter whether the folded text would fit.
	d = dictionary(entryOf(longText(60), 1), entryOf("a b c d e f g h i j", of(0, 18)), entryOf("c", of(0, 18, 22)))
	checkOverrides(t, d, exampleFolds(), [][]int{{of(0, 18)}, {of(0, 18, 22)}}, true)
	checkFolding(t, d, exampleFolds())
}

func TestTwoEntriesWhoseExpansionsMeet(t *testing.T) {
	folds := foldsOf(fold(18, "ing"), fold(21, "ed"))
	d := dictionary(entryOf("a", of(0, 18)), entryOf("b", of(0, 21)))
	checkExpand(t, d, folds, dictionary(entryOf("a", of(0, 18)), entryOf("b", of(0, 21)), entryOf("b {^ing}", of(0, 18, 21))), true)
	checkExpand(t, d, reversed(folds), dictionary(entryOf("a", of(0, 18)), entryOf("b", of(0, 21)), entryOf("a {^ed}", of(0, 18, 21))), true)
	d = dictionary(entryOf("a", of(0, 18)), entryOf(longText(54), of(0, 21)))
	checkExpand(t, d, folds, with(d, entryOf("a {^ed}", of(0, 18, 21))), true)
	d = dictionary(entryOf(longText(55), of(0, 18)), entryOf(longText(54), of(0, 21)))
	checkExpand(t, d, folds, d, true)
	// All of these meet in one outline.
	six := foldsOf(fold(13, "a"), fold(14, "b"), fold(15, "c"), fold(16, "d"), fold(17, "e"), fold(18, "f"))
	d = noDictionary
	for i, f := range six {
		d = with(d, entryOf(string(letters[20+i]), of(0, 13, 14, 15, 16, 17, 18)-of(f.Key)))
	}
	checkExpand(t, d, six, with(d, entryOf("u {^a}", of(0, 13, 14, 15, 16, 17, 18))), true)
	checkExpand(t, d, reversed(six), with(d, entryOf("z {^f}", of(0, 13, 14, 15, 16, 17, 18))), true)
}

func TestTheEmptyDictionaryFolded(t *testing.T) {
	for _, folds := range [][]impl.Fold{nil, exampleFolds(), manyFolds(6)} {
		checkExpand(t, noDictionary, folds, noDictionary, true)
		checkOverrides(t, noDictionary, folds, nil, true)
		checkFolded(t, noDictionary, folds, []int{1}, "", 0)
		checkFolded(t, noDictionary, folds, []int{of(0, 18)}, "", 0)
	}
}

// An outline that has the keys of all folds already expands to nothing more.
func withAllKeys(d impl.Dictionary, n int) impl.Dictionary {
	for i := range n {
		d = with(d, entryOf(fmt.Sprint("all", i), 500+i, of(0, 18, 20, 21, 22)))
	}
	return d
}

func TestExpansionsAtTheLimitOfEntries(t *testing.T) {
	checkExpandedTo(t, numbered(8), exampleFolds(), 40)
	checkExpandedTo(t, withAllKeys(numbered(8), 1), exampleFolds(), 41)
	checkExpandedTo(t, withAllKeys(numbered(7), 5), exampleFolds(), 40)
	checkExpandedTo(t, withAllKeys(numbered(7), 6), exampleFolds(), 41)
	checkExpandedTo(t, withAllKeys(noDictionary, 40), exampleFolds(), 40)
	checkExpandedTo(t, with(withAllKeys(noDictionary, 35), entryOf("a", 1)), exampleFolds(), 40)
	checkExpandedTo(t, with(withAllKeys(noDictionary, 36), entryOf("a", 1)), exampleFolds(), 41)
	checkExpandedTo(t, numbered(20), foldsOf(fold(18, "ing")), 40)
	checkExpandedTo(t, withAllKeys(numbered(20), 1), foldsOf(fold(18, "ing")), 41)
	checkExpandedTo(t, numbered(21), foldsOf(fold(18, "ing")), 42)
	checkExpandedTo(t, numbered(40), foldsOf(fold(18, "ing")), 80)
	checkExpandedTo(t, numbered(40), exampleFolds(), 200)
	checkExpandedTo(t, numbered(40), manyFolds(6), 280)
	checkExpandedTo(t, withAllKeys(numbered(5), 5), manyFolds(6), 5*7+5*3)
	checkExpandedTo(t, numbered(40), nil, 40)
	checkExpandedTo(t, fullest(), nil, 40)
}

// What cannot be folded, or is there already, does not count for the limit.
func TestExpansionsThatAddFewEntries(t *testing.T) {
	var long, met impl.Dictionary
	for i := range 40 {
		long = with(long, entryOf(longText(56+i%5), 10*i+10))
	}
	checkExpand(t, long, exampleFolds(), long, true)
	checkExpandedTo(t, with(without(long, []int{10}), entryOf(longText(54), 10)), foldsOf(fold(18, "ing")), 40)
	checkExpandedTo(t, with(without(long, []int{10}), entryOf(longText(53), 10)), foldsOf(fold(18, "ing")), 41)
	for i := range 10 {
		met = with(met, entryOf("a", i+1, of(0)))
		met = with(met, entryOf("b", i+1, of(0, 18)))
		met = with(met, entryOf("c", i+1, of(0, 21)))
	}
	folds := foldsOf(fold(21, "ed"), fold(18, "ing"))
	checkExpandedTo(t, met, folds, 40)
	checkExpandedTo(t, with(met, entryOf("d", 11, of(0, 18, 21))), folds, 41)
	checkExpandedTo(t, with(met, entryOf("d", 10, of(0, 18, 21))), folds, 40)
}

// The limit is that of the result alone: what is looked up need not have an expansion.
func TestLookupsInDictionariesThatCannotBeExpanded(t *testing.T) {
	d := numbered(40)
	checkExpand(t, d, exampleFolds(), noDictionary, false)
	checkOverrides(t, d, exampleFolds(), nil, true)
	for i, e := range d.Entries {
		last := e.Outline[len(e.Outline)-1]
		checkFolded(t, d, exampleFolds(), e.Outline, e.Text, -1)
		checkFolded(t, d, exampleFolds(), withLast(e.Outline, last+of(20)), fmt.Sprint("w", (i+1)%7, " {^s}"), 2)
	}
}

// All dictionaries over the strokes of three keys, where each text can be folded with both folds
// or with one of them only.
func TestAllSmallDictionariesFolded(t *testing.T) {
	strokes := []int{of(0), of(18), of(0, 18), of(21), of(0, 21), of(18, 21), of(0, 18, 21)}
	folds := foldsOf(fold(18, "ing"), fold(21, "ed"))
	for _, texts := range listsOver([]int{0, 1, 2}, len(strokes)) {
		var d impl.Dictionary
		for k, s := range strokes {
			switch texts[k] {
			case 1:
				d.Entries = append(d.Entries, entryOf("abcdefg"[k:k+1], s))
			case 2:
				d.Entries = append(d.Entries, entryOf(longText(54), s))
			}
		}
		checkFolding(t, d, folds)
		checkFolding(t, d, reversed(folds))
	}
}

// foldingDictionary makes the outlines meet: many differ in a few keys of the last stroke only.
func foldingDictionary(r *rand.Rand, n int) impl.Dictionary {
	var d impl.Dictionary
	for len(d.Entries) < n {
		e := randomEntry(r)
		if r.Intn(5) > 0 {
			last := 1 + r.Intn(2)
			for _, key := range []int{13, 18, 20, 21} {
				last += r.Intn(2) * of(key)
			}
			e.Outline = withLast(append([]int{of(0, 18), 1}[:r.Intn(3)], 0), last)
		}
		if r.Intn(4) == 0 {
			e.Text = longText(48 + r.Intn(13))
		}
		d = with(d, e)
	}
	return d
}

// randomFolds has at most six folds, most of them with a key that foldingDictionary uses.
func randomFolds(r *rand.Rand, n int) []impl.Fold {
	keys := []int{13, 18, 20, 21, 15, 22}
	var folds []impl.Fold
	for _, i := range r.Perm(len(keys))[:n] {
		folds = append(folds, fold(keys[i], goodSuffixes[r.Intn(len(goodSuffixes))]))
	}
	return folds
}

func TestRandomDictionariesFolded(t *testing.T) {
	r := rand.New(rand.NewSource(1010))
	fits, tooMany, overrides := 0, 0, 0
	for i := range 250 {
		d := foldingDictionary(r, []int{0, 1, 3, 6, 10, 20}[i%6])
		folds := randomFolds(r, r.Intn(7))
		checkFolding(t, d, folds)
		overrides += len(expectedOverrides(d, folds))
		if len(expectedExpansion(d, folds).Entries) > 40 {
			tooMany++
		} else {
			fits++
		}
	}
	if fits < 100 || tooMany < 20 || overrides < 100 {
		t.Error("the dictionaries do not try all cases", fits, tooMany, overrides)
	}
}

// Promise 10, its other parts, with the functions of chapters 6 and 10 on both sides.
func TestExpansionAgreesWithFoldedLookup(t *testing.T) {
	r := rand.New(rand.NewSource(101))
	expanded, folded := 0, 0
	for i := range 300 {
		d, folds := foldingDictionary(r, i%15), randomFolds(r, 1+r.Intn(4))
		all, ok := impl.ExpandFolds(d, folds)
		if !ok {
			continue
		}
		expanded++
		checkIsDictionary(t, all, true)
		for _, e := range d.Entries {
			checkFolded(t, d, folds, e.Outline, e.Text, -1)
			checkLookup(t, all, e.Outline, e.Text)
			for _, f := range folds {
				o, ok := impl.FoldInto(e.Outline, f)
				if !ok {
					continue
				}
				text, by, _ := impl.LookupFolded(d, folds, o)
				checkLookup(t, all, o, text)
				if text != "" && by >= 0 {
					folded++
				}
			}
		}
	}
	if expanded < 150 || folded < 1000 {
		t.Error("the dictionaries try too little", expanded, folded)
	}
}

// The outlines of the argument share memory with each other; those of the result must not.
func TestFoldedOutlinesThatShareMemory(t *testing.T) {
	o := []int{of(0), of(0, 18), of(0, 18), of(0, 18)}
	d := dictionary(entryOf("a", o[:1]...), entryOf("b", o[:2]...), entryOf("c", o[1:2]...), entryOf("d", o[1:3]...))
	overriding, _ := impl.FoldOverrides(d, exampleFolds())
	overwrite(t, "FoldOverrides", overriding)
	all, _ := impl.ExpandFolds(d, exampleFolds())
	overwriteDictionary(t, "ExpandFolds", all)
	same, _ := impl.ExpandFolds(d, nil)
	overwriteDictionary(t, "ExpandFolds", same)
	for n := 1; n <= len(o); n++ {
		for _, f := range exampleFolds() {
			longer, _ := impl.FoldInto(o[:n], f)
			shorter, _ := impl.Unfold(o[:n], f)
			overwrite(t, "FoldInto and Unfold", [][]int{longer, shorter})
		}
	}
	checkStrokes(t, o, of(0), of(0, 18), of(0, 18), of(0, 18))
	checkFolding(t, d, exampleFolds())
}

func TestListsOfOverridesAreNewMemory(t *testing.T) {
	d := dictionary(entryOf("walk", 1), entryOf("woke", of(0, 18)), entryOf("walks", of(0, 20)))
	first, _ := impl.FoldOverrides(d, exampleFolds())
	second, _ := impl.FoldOverrides(d, exampleFolds())
	for i := range cap(first) {
		first[:cap(first)][i] = []int{-100}
	}
	if !slices.EqualFunc(second, [][]int{{of(0, 18)}, {of(0, 20)}}, slices.Equal[[]int]) {
		t.Error("shared", second)
	}
	checkOverrides(t, d, exampleFolds(), second, true)
}
