package tests

import (
	"fmt"
	"math/rand"
	"slices"
	"strings"
	"testing"

	"loop.example/g00882/impl"
)

// Promise 4: outlines round-trip and are totally ordered, with prefixes first. Promise 26, for
// chapter 4: every function returns for all arguments and modifies none of them.

// A lent outline is given to a function with room behind its last stroke, so that a stroke
// written there shows too.
type lent struct{ outline, all, before []int }

func lend(o []int) lent {
	all := append(slices.Clone(o), -7, of(3, 8, 19), 0, -7, -7, -7, -7, -7)
	return lent{all[:len(o)], all, slices.Clone(all)}
}

// shown spares the reader most of the longest lists.
func shown(o []int) string { return fmt.Sprintf("%.100s", fmt.Sprint(o)) }

func checkUnchanged(t *testing.T, name string, outlines ...lent) {
	t.Helper()
	for _, l := range outlines {
		if !slices.Equal(l.all, l.before) {
			t.Fatalf("%s changed %s to %s", name, shown(l.before), shown(l.all))
		}
	}
}

func checkIsOutline(t *testing.T, o []int, want bool) {
	t.Helper()
	l := lend(o)
	if got := impl.IsValidOutline(l.outline); got != want {
		t.Errorf("IsValidOutline(%s) = %v", shown(o), got)
	}
	checkUnchanged(t, "IsValidOutline", l)
}

func checkFormatOutline(t *testing.T, o []int, want string, wantOK bool) {
	t.Helper()
	l := lend(o)
	if got, ok := impl.FormatOutline(l.outline); got != want || ok != wantOK {
		t.Errorf("FormatOutline(%s) = %q, %v; want %q, %v", shown(o), got, ok, want, wantOK)
	}
	checkUnchanged(t, "FormatOutline", l)
}

// checkParseOutline expects a failure if want is empty.
func checkParseOutline(t *testing.T, text string, want ...int) {
	t.Helper()
	if got, ok := impl.ParseOutline(text); !slices.Equal(got, want) || ok != (len(want) > 0) {
		t.Errorf("ParseOutline(%.60q) = %s, %v; want %v", text, shown(got), ok, want)
	}
}

func checkCompare(t *testing.T, a, b []int, want int, wantOK bool) {
	t.Helper()
	l, m := lend(a), lend(b)
	if got, ok := impl.CompareOutlines(l.outline, m.outline); got != want || ok != wantOK {
		t.Errorf("CompareOutlines(%s, %s) = %d, %v; want %d, %v", shown(a), shown(b), got, ok, want, wantOK)
	}
	checkUnchanged(t, "CompareOutlines", l, m)
}

func checkHasPrefix(t *testing.T, o, prefix []int, want, wantOK bool) {
	t.Helper()
	l, m := lend(o), lend(prefix)
	if got, ok := impl.HasPrefix(l.outline, m.outline); got != want || ok != wantOK {
		t.Errorf("HasPrefix(%s, %s) = %v, %v; want %v, %v", shown(o), shown(prefix), got, ok, want, wantOK)
	}
	checkUnchanged(t, "HasPrefix", l, m)
}

// checkConcat expects a failure if want is empty.
func checkConcat(t *testing.T, a, b []int, want ...int) {
	t.Helper()
	l, m := lend(a), lend(b)
	if got, ok := impl.ConcatOutlines(l.outline, m.outline); !slices.Equal(got, want) || ok != (len(want) > 0) {
		t.Errorf("ConcatOutlines(%s, %s) = %s, %v; want %v", shown(a), shown(b), shown(got), ok, want)
	}
	checkUnchanged(t, "ConcatOutlines", l, m)
}

// notOutlines lists outlines that are too short, too long or have a stroke that is none at the
// beginning, in the middle or at the end.
func notOutlines() [][]int {
	lists := [][]int{nil, {}, slices.Repeat([]int{2}, 7), {1, 2, 3, 4, 5, 6, 7}, slices.Repeat([]int{2}, 1<<16), make([]int, 3)}
	for _, s := range notStrokes {
		lists = append(lists, []int{s}, []int{s, 2}, []int{2, s}, []int{s, s}, []int{2, s, 2})
		for i := range 6 {
			o := []int{1, 2, 3, 4, 5, 6}
			o[i] = s
			lists = append(lists, o)
		}
	}
	return lists
}

// validOutlines lists all outlines of at most three of a few strokes, which are chosen so that
// neither the notations nor the lowest bits are in the order of the integers, and some longer
// ones.
func validOutlines() [][]int {
	strokes := []int{1, 2, 1 << 16, 1 << 22, largestStroke - 1, largestStroke}
	var all [][]int
	shorter := [][]int{nil}
	for range 3 {
		var longer [][]int
		for _, o := range shorter {
			for _, s := range strokes {
				longer = append(longer, append(slices.Clone(o), s))
			}
		}
		all = append(all, longer...)
		shorter = longer
	}
	for n := 4; n <= 6; n++ {
		for _, s := range strokes {
			all = append(all, slices.Repeat([]int{s}, n), append(slices.Repeat([]int{2}, n-1), s))
		}
	}
	return all
}

// randomOutline often repeats a few strokes, so that outlines begin alike.
func randomOutline(r *rand.Rand) []int {
	o := make([]int, 1+r.Intn(6))
	for i := range o {
		o[i] = []int{1, 2, largestStroke, 1 + r.Intn(largestStroke)}[r.Intn(4)]
	}
	return o
}

func TestConstantOfChapter4(t *testing.T) {
	if impl.MaxOutline != 6 {
		t.Error("strokes", impl.MaxOutline)
	}
}

func TestIsValidOutline(t *testing.T) {
	for _, o := range validOutlines() {
		checkIsOutline(t, o, true)
	}
	for n := 1; n <= 6; n++ {
		checkIsOutline(t, slices.Repeat([]int{smallestStroke}, n), true)
		checkIsOutline(t, slices.Repeat([]int{largestStroke}, n), true)
		checkIsOutline(t, []int{1, 2, 3, 4, 5, 6}[:n], true)
	}
	for n := 7; n <= 40; n++ {
		checkIsOutline(t, slices.Repeat([]int{smallestStroke}, n), false)
	}
	for _, o := range notOutlines() {
		checkIsOutline(t, o, false)
	}
}

func TestFormatOutline(t *testing.T) {
	checkFormatOutline(t, []int{of(3, 8, 19), of(20)}, "KAT/-S", true)
	checkFormatOutline(t, []int{of(3, 8, 19)}, "KAT", true)
	checkFormatOutline(t, []int{of(20), of(1)}, "-S/S", true)
	checkFormatOutline(t, []int{of(0)}, "#", true)
	checkFormatOutline(t, []int{of(10), of(10), of(1, 22)}, "*/*/S-Z", true)
	checkFormatOutline(t, []int{1, 2, 4, 8, 16, 32}, "#/S/T/K/P/W", true)
	full := "#STKPWHRAO*EUFRPBLGTSDZ"
	checkFormatOutline(t, slices.Repeat([]int{largestStroke}, 6), strings.Repeat(full+"/", 5)+full, true)
}

func TestFormatOutlineRejectsInvalidOutlines(t *testing.T) {
	for _, o := range notOutlines() {
		checkFormatOutline(t, o, "", false)
	}
}

func TestParseOutline(t *testing.T) {
	checkParseOutline(t, "KAT/-S", of(3, 8, 19), of(20))
	checkParseOutline(t, "KAT", of(3, 8, 19))
	checkParseOutline(t, "-S/S", of(20), of(1))
	checkParseOutline(t, "S-S/SAS", of(1, 20), of(1, 8, 20))
	checkParseOutline(t, "#", 1)
	checkParseOutline(t, "S/S/S/S/S/S", 2, 2, 2, 2, 2, 2)
	checkParseOutline(t, "#/S/T/K/P/W", 1, 2, 4, 8, 16, 32)
	full := "#STKPWHRAO*EUFRPBLGTSDZ"
	checkParseOutline(t, strings.Repeat(full+"/", 5)+full, slices.Repeat([]int{largestStroke}, 6)...)
}

func TestParseOutlineRejectsEmptyParts(t *testing.T) {
	for _, text := range []string{
		"", "/", "//", "///////", "KAT/", "/KAT", "/KAT/", "KAT//S", "KAT///S", "KAT/S/", "/KAT/S", "KAT/S//",
		"S/S/S/S/S/", "/S/S/S/S/S", "S/S/S//S/S", "S/S/S/S/S/S/", "/S/S/S/S/S/S", "S/S/S//S/S/S",
	} {
		checkParseOutline(t, text)
	}
}

func TestParseOutlineRejectsTooManyParts(t *testing.T) {
	for n := 7; n <= 20; n++ {
		checkParseOutline(t, strings.Repeat("S/", n-1)+"S")
		checkParseOutline(t, strings.Repeat("KAT/", n-1)+"KAT")
	}
	checkParseOutline(t, "#/S/T/K/P/W/H")
}

func TestParseOutlineRejectsOtherNotations(t *testing.T) {
	relaxed := []string{"KA-T", "TS", "SS", "S-", "KAT-", "A-F", "F", "Z", "#Z", "*-", "STS"}
	for _, text := range append(relaxed, notationsOfNoStroke...) {
		if strings.Contains(text, "/") {
			continue
		}
		checkParseOutline(t, text)
		checkParseOutline(t, text+"/S")
		checkParseOutline(t, "S/"+text)
		checkParseOutline(t, "S/"+text+"/S")
		checkParseOutline(t, text+"/"+text)
		checkParseOutline(t, "S/S/S/S/S/"+text)
	}
	for _, text := range []string{"KAT,S", "KAT S", "KAT/ S", "KAT /S", "KAT\\S", "KAT|S", "KAT\n/S", "KAT/S\n", "KAT\u2215S", "KAT/s"} {
		checkParseOutline(t, text)
	}
}

func TestParseOutlineOfLongTexts(t *testing.T) {
	for _, part := range []string{"S/", "/", "S", "KAT/", "-", "x", "\x00", "#STKPWHRAO*EUFRPBLGTSDZ/"} {
		long := strings.Repeat(part, 100000)
		for _, text := range []string{long, long + "S", "S/" + long, "S/S/S/S/S/" + long, long + "/S"} {
			checkParseOutline(t, text)
		}
	}
}

func checkOutlineRoundTrip(t *testing.T, o []int) {
	t.Helper()
	var notations []string
	for _, s := range o {
		notations = append(notations, expectedNotation(s))
	}
	checkFormatOutline(t, o, strings.Join(notations, "/"), true)
	checkParseOutline(t, strings.Join(notations, "/"), o...)
}

func TestOutlinesRoundTrip(t *testing.T) {
	for _, o := range validOutlines() {
		checkOutlineRoundTrip(t, o)
	}
	for s := smallestStroke; s <= largestStroke; s += 997 {
		checkOutlineRoundTrip(t, []int{s})
		checkOutlineRoundTrip(t, []int{s, largestStroke + 1 - s, s})
	}
	r := rand.New(rand.NewSource(4))
	for range 5000 {
		checkOutlineRoundTrip(t, randomOutline(r))
	}
}

// Every string of a few characters at which parts, hyphens and limits go apart.
func TestAllShortTextsOfOutlines(t *testing.T) {
	checkAllOutlineTexts(t, stringsOver("ST-A/", 7))
	checkAllOutlineTexts(t, stringsOver("#/-Z", 8))
	checkAllOutlineTexts(t, stringsOver("S/", 14))
}

func checkAllOutlineTexts(t *testing.T, texts []string) {
	t.Helper()
	canonical := canonicalNotations(5)
	for _, text := range texts {
		checkParseOutline(t, text, expectedOutline(text, canonical)...)
	}
}

// expectedOutline looks up all parts of the text; it returns nothing if one is missing. Of the
// texts above, none has a stroke of more than five keys.
func expectedOutline(text string, canonical map[string]int) []int {
	parts := strings.Split(text, "/")
	if len(parts) > 6 {
		return nil
	}
	var o []int
	for _, part := range parts {
		if canonical[part] == noStroke {
			return nil
		}
		o = append(o, canonical[part])
	}
	return o
}

func TestCompareOutlines(t *testing.T) {
	checkCompare(t, []int{2}, []int{4}, -1, true)
	checkCompare(t, []int{4}, []int{2}, 1, true)
	checkCompare(t, []int{4}, []int{4}, 0, true)
	checkCompare(t, []int{4}, []int{2, 2}, 1, true)
	checkCompare(t, []int{2, 3}, []int{2, 3}, 0, true)
	checkCompare(t, []int{2, 3}, []int{3, 2}, -1, true)
	checkCompare(t, []int{2, 3, 5}, []int{2, 4, 1}, -1, true)
	checkCompare(t, []int{9, 9, 9, 9, 9, 8}, []int{9, 9, 9, 9, 9, 9}, -1, true)
	checkCompare(t, []int{9, 9, 9, 9, 9, 9}, []int{9, 9, 9, 9, 9, 9}, 0, true)
	checkCompare(t, []int{9, 9, 9, 9, 9, 9}, []int{10}, -1, true)
	checkCompare(t, []int{11}, []int{9, 9, 9, 9, 9, 9}, 1, true)
}

func TestAProperPrefixPrecedesTheLongerOutline(t *testing.T) {
	for _, s := range []int{smallestStroke, 2, 1 << 22, largestStroke} {
		checkCompare(t, []int{2}, []int{2, s}, -1, true)
		checkCompare(t, []int{2, s}, []int{2}, 1, true)
	}
	for _, o := range validOutlines() {
		for n := 1; n < len(o); n++ {
			checkCompare(t, o[:n], o, -1, true)
			checkCompare(t, o, o[:n], 1, true)
		}
	}
}

func TestStrokesAreComparedAsIntegers(t *testing.T) {
	// Their notations, #, S, #S, T and at last -Z, #-Z and so on, are in another order.
	ascending := []int{
		1, 2, 3, 4, 9, 10, 11, 99, 100, 255, 256, 257, 65535, 65536, 65537, 1<<22 - 1, 1 << 22, 1<<22 + 1,
		largestStroke - 2, largestStroke - 1, largestStroke,
	}
	for i, a := range ascending {
		for k, b := range ascending {
			want := max(-1, min(1, i-k))
			checkCompare(t, []int{a}, []int{b}, want, true)
			checkCompare(t, []int{7, a}, []int{7, b}, want, true)
			checkCompare(t, []int{7, 7, a, 1}, []int{7, 7, b, 1}, want, true)
			if want != 0 {
				checkCompare(t, []int{a, largestStroke}, []int{b, 1}, want, true)
				checkCompare(t, []int{a}, []int{b, 1}, want, true)
				checkCompare(t, []int{a, 1, 1, 1, 1, 1}, []int{b}, want, true)
			}
		}
	}
}

// expectedOrder compares texts in which every stroke has the same number of digits.
func expectedOrder(a, b []int) int { return strings.Compare(inDigits(a), inDigits(b)) }

func inDigits(o []int) string {
	text := ""
	for _, s := range o {
		text += fmt.Sprintf("%08d", s)
	}
	return text
}

// What is compared here is the order of texts, which is total.
func TestOutlinesAreTotallyOrdered(t *testing.T) {
	all := validOutlines()
	for _, a := range all {
		for _, b := range all {
			checkCompare(t, a, b, expectedOrder(a, b), true)
		}
	}
	r := rand.New(rand.NewSource(44))
	for range 20000 {
		a, b := randomOutline(r), randomOutline(r)
		checkCompare(t, a, b, expectedOrder(a, b), true)
		checkCompare(t, b, a, -expectedOrder(a, b), true)
		checkCompare(t, a, a, 0, true)
	}
}

func TestHasPrefix(t *testing.T) {
	o := []int{of(3, 8, 19), of(20), of(1)}
	checkHasPrefix(t, o, []int{of(3, 8, 19)}, true, true)
	checkHasPrefix(t, o, []int{of(3, 8, 19), of(20)}, true, true)
	checkHasPrefix(t, o, []int{of(20)}, false, true)
	checkHasPrefix(t, o, []int{of(20), of(1)}, false, true)
	checkHasPrefix(t, o, []int{of(3, 8, 19), of(1)}, false, true)
	checkHasPrefix(t, o, []int{of(3, 8)}, false, true)
	checkHasPrefix(t, o, []int{of(3, 8, 19), of(20), of(0)}, false, true)
	checkHasPrefix(t, o, []int{of(3, 8, 19), of(20), of(1), of(1)}, false, true)
	checkHasPrefix(t, []int{2, 2}, []int{2, 2, 2}, false, true)
}

func TestAPrefixThatIsTheWholeOutline(t *testing.T) {
	for _, o := range validOutlines() {
		checkHasPrefix(t, o, o, true, true)
		last := len(o) - 1
		checkHasPrefix(t, o, append(slices.Clone(o[:last]), o[last]^4|8), false, true)
		if len(o) < 6 {
			checkHasPrefix(t, o, append(slices.Clone(o), 2), false, true)
			checkHasPrefix(t, append(slices.Clone(o), 2), o, true, true)
		}
	}
}

func TestHasPrefixAgreesWithTheStrokesInDigits(t *testing.T) {
	all := validOutlines()
	for _, o := range all {
		for _, prefix := range all {
			checkHasPrefix(t, o, prefix, strings.HasPrefix(inDigits(o), inDigits(prefix)), true)
		}
	}
	r := rand.New(rand.NewSource(444))
	for range 20000 {
		o, prefix := randomOutline(r), randomOutline(r)
		checkHasPrefix(t, o, prefix, strings.HasPrefix(inDigits(o), inDigits(prefix)), true)
		checkHasPrefix(t, o, o[:1+r.Intn(len(o))], true, true)
	}
}

func TestConcatOutlines(t *testing.T) {
	checkConcat(t, []int{of(3, 8, 19)}, []int{of(20)}, of(3, 8, 19), of(20))
	checkConcat(t, []int{of(20)}, []int{of(3, 8, 19)}, of(20), of(3, 8, 19))
	checkConcat(t, []int{1, 2}, []int{2, 1, 4}, 1, 2, 2, 1, 4)
	checkConcat(t, []int{largestStroke}, []int{smallestStroke}, largestStroke, smallestStroke)
}

func TestConcatOutlinesAtTheLimit(t *testing.T) {
	six, more := []int{1, 2, 3, 4, 5, 6}, []int{11, 12, 13, 14, 15, 16}
	for n := 1; n <= 6; n++ {
		for m := 1; m <= 6; m++ {
			if n+m <= 6 {
				checkConcat(t, six[:n], more[:m], append(slices.Clone(six[:n]), more[:m]...)...)
			} else {
				checkConcat(t, six[:n], more[:m])
			}
		}
	}
	checkConcat(t, six[:3], six[3:], six...)
	checkConcat(t, six[:5], six[5:], six...)
	checkConcat(t, six[:1], six[1:], six...)
	checkConcat(t, six[:3], six[2:])
}

// A concatenation is valid, begins with its first part and follows it.
func TestConcatenationsAndTheirPrefixes(t *testing.T) {
	r := rand.New(rand.NewSource(4444))
	for range 20000 {
		a, b := randomOutline(r), randomOutline(r)
		if len(a)+len(b) > 6 {
			checkConcat(t, a, b)
			continue
		}
		checkConcat(t, a, b, append(slices.Clone(a), b...)...)
		whole, _ := impl.ConcatOutlines(a, b)
		checkIsOutline(t, whole, true)
		checkHasPrefix(t, whole, a, true, true)
		checkHasPrefix(t, a, whole, false, true)
		checkCompare(t, a, whole, -1, true)
		checkCompare(t, whole, a, 1, true)
	}
}

// The valid one begins like many of the others, so that only their validity can be in the way.
func TestTwoOutlinesOfWhichOneIsInvalid(t *testing.T) {
	bad := notOutlines()
	for _, o := range bad {
		for _, valid := range [][]int{{2}, {1, 2}, {1, 2, 3, 4, 5, 6}, {largestStroke}} {
			checkCompare(t, o, valid, 0, false)
			checkCompare(t, valid, o, 0, false)
			checkHasPrefix(t, o, valid, false, false)
			checkHasPrefix(t, valid, o, false, false)
			checkConcat(t, o, valid)
			checkConcat(t, valid, o)
		}
		checkCompare(t, o, o, 0, false)
		checkHasPrefix(t, o, o, false, false)
		checkConcat(t, o, o)
	}
	for _, o := range bad[:20] {
		for _, other := range bad {
			checkCompare(t, o, other, 0, false)
			checkHasPrefix(t, o, other, false, false)
			checkConcat(t, o, other)
		}
	}
}

func TestParsedOutlinesAreNewMemory(t *testing.T) {
	first, _ := impl.ParseOutline("KAT/-S/#")
	second, _ := impl.ParseOutline("KAT/-S/#")
	first[0] = -7
	_ = append(first[:1], -8, -9, -10)
	if !slices.Equal(second, []int{of(3, 8, 19), of(20), 1}) {
		t.Error("shared", second)
	}
	checkParseOutline(t, "KAT/-S/#", of(3, 8, 19), of(20), 1)
}

// The first outline has room for the second, which must not be written there.
func TestConcatenationsAreNewMemory(t *testing.T) {
	all := []int{1, 2, 3, 4, 5, 6, 7, 8}
	first, _ := impl.ConcatOutlines(all[:2], all[4:6])
	second, _ := impl.ConcatOutlines(all[:2], []int{9, 10})
	third, _ := impl.ConcatOutlines(all[:2], all[:2])
	checkStrokes(t, all, 1, 2, 3, 4, 5, 6, 7, 8)
	checkStrokes(t, first, 1, 2, 5, 6)
	checkStrokes(t, second, 1, 2, 9, 10)
	checkStrokes(t, third, 1, 2, 1, 2)

	clear(first)
	_ = append(second[:1], -7, -7, -7)
	checkStrokes(t, all, 1, 2, 3, 4, 5, 6, 7, 8)
	checkStrokes(t, third, 1, 2, 1, 2)
	all[0], all[4] = -7, -7
	checkStrokes(t, third, 1, 2, 1, 2)
	checkStrokes(t, second, 1, -7, -7, -7)
}

func checkStrokes(t *testing.T, got []int, want ...int) {
	t.Helper()
	if !slices.Equal(got, want) {
		t.Errorf("%v; want %v", got, want)
	}
}
