package tests

import (
	"fmt"
	"math"
	"math/rand"
	"regexp"
	"slices"
	"strings"
	"testing"

	"loop.example/g00882/impl"
)

// Promise 12: atoms are applied one by one, and the result does not depend on how they are
// grouped. Promise 26, for chapter 12: every function returns for all arguments and modifies none
// of them.

var noState impl.State

func suffix(text string) impl.Atom { return atom(impl.AtomSuffix, text) }

func prefix(text string) impl.Atom { return atom(impl.AtomPrefix, text) }

func infix(text string) impl.Atom { return atom(impl.AtomInfix, text) }

func glue(text string) impl.Atom { return atom(impl.AtomGlue, text) }

func stop(text string) impl.Atom { return atom(impl.AtomStop, text) }

func pause(text string) impl.Atom { return atom(impl.AtomPause, text) }

var capNext, lowerNext, capLast = atom(impl.AtomCapNext, ""), atom(impl.AtomLowerNext, ""), atom(impl.AtomCapLast, "")

// stateOf takes the text with a bar where the last word starts, and flags: j and g for Joined and
// Glued, 1 and 2 for CapNext.
func stateOf(text, flags string) impl.State {
	before, last, _ := strings.Cut(text, "|")
	s := impl.State{Text: before + last, Word: len(before)}
	for _, flag := range flags {
		switch flag {
		case 'j':
			s.Joined = true
		case 'g':
			s.Glued = true
		default:
			s.CapNext = int(flag - '0')
		}
	}
	return s
}

// allFlags are those of all states with the same text.
var allFlags = []string{"", "1", "2", "j", "j1", "j2", "g", "g1", "g2", "jg", "jg1", "jg2"}

// wordMark stands in a text of the second reading where the last word starts.
const wordMark = "\x01"

var (
	printable   = regexp.MustCompile(`^[ -~]*$`)
	smallFirst  = regexp.MustCompile(`^[a-z]`)
	largeFirst  = regexp.MustCompile(`^[A-Z]`)
	smallLast   = regexp.MustCompile(wordMark + `[a-z]`)
	spelledWord = regexp.MustCompile(`^[a-z]{1,24}$`)
)

func expectedState(s impl.State) bool {
	return len(s.Text) <= 2000 && printable.MatchString(s.Text) && slices.Contains([]int{0, 1, 2}, s.CapNext) &&
		0 <= s.Word && s.Word <= len(s.Text)
}

func expectedIsAtom(a impl.Atom) bool {
	return a != noAtom && expectedAtom(written(a.Kind, a.Text)) == a
}

func expectedCase(text string, capNext int) string {
	switch capNext {
	case 1:
		return smallFirst.ReplaceAllStringFunc(text, strings.ToUpper)
	case 2:
		return largeFirst.ReplaceAllStringFunc(text, strings.ToLower)
	}
	return text
}

func expectedJoined(last, suffix string) string {
	if spelledWord.MatchString(last) && spelledWord.MatchString(suffix) {
		if _, joined := expectedSpelling(last, suffix); len(joined) <= 24 {
			return joined
		}
	}
	return last + suffix
}

// expectedEffect returns the text with the mark after a, and the flags after it. It is a second
// reading of the list of effects, kind by kind.
func expectedEffect(s impl.State, a impl.Atom) (string, bool, bool, int) {
	before, last := s.Text[:s.Word], s.Text[s.Word:]
	marked, space := before+wordMark+last, " "
	if s.Joined {
		space = ""
	}
	text := expectedCase(a.Text, s.CapNext)
	switch a.Kind {
	case impl.AtomWord:
		return s.Text + space + wordMark + text, false, false, 0
	case impl.AtomPrefix:
		return s.Text + space + wordMark + text, true, false, 0
	case impl.AtomGlue:
		if s.Glued {
			return marked + text, false, true, 0
		}
		return s.Text + space + wordMark + text, false, true, 0
	case impl.AtomInfix:
		return marked + a.Text, true, false, s.CapNext
	case impl.AtomSuffix:
		return before + wordMark + expectedJoined(last, a.Text), false, false, s.CapNext
	case impl.AtomStop:
		return marked + a.Text, false, false, 1
	case impl.AtomPause:
		return marked + a.Text, false, false, s.CapNext
	case impl.AtomCapNext:
		return marked, s.Joined, s.Glued, 1
	case impl.AtomLowerNext:
		return marked, s.Joined, s.Glued, 2
	default:
		return smallLast.ReplaceAllStringFunc(marked, strings.ToUpper), s.Joined, s.Glued, s.CapNext
	}
}

func expectedAfter(s impl.State, a impl.Atom) (impl.State, bool) {
	if !expectedState(s) || !expectedIsAtom(a) {
		return noState, false
	}
	marked, joined, glued, capNext := expectedEffect(s, a)
	text := strings.Replace(marked, wordMark, "", 1)
	if len(text) > 2000 {
		return noState, false
	}
	return impl.State{Text: text, Joined: joined, Glued: glued, CapNext: capNext, Word: strings.Index(marked, wordMark)}, true
}

func expectedAfterAll(s impl.State, l []impl.Atom) (impl.State, bool) {
	ok := expectedState(s) && len(l) <= 600
	for _, a := range l {
		if ok {
			s, ok = expectedAfter(s, a)
		}
	}
	if !ok {
		return noState, false
	}
	return s, true
}

// shownState spares the reader most of the longest texts.
func shownState(s impl.State) string {
	return fmt.Sprintf("{%d bytes %.60q Joined %v Glued %v CapNext %d Word %d}", len(s.Text), s.Text, s.Joined, s.Glued, s.CapNext, s.Word)
}

func checkIsState(t *testing.T, s impl.State, want bool) {
	t.Helper()
	if got := impl.IsValidState(s); got != want {
		t.Errorf("IsValidState(%s) = %v", shownState(s), got)
	}
	wantWord := ""
	if want {
		wantWord = s.Text[s.Word:]
	}
	if got, ok := impl.LastWord(s); got != wantWord || ok != want {
		t.Errorf("LastWord(%s) = %.60q, %v; want %.60q, %v", shownState(s), got, ok, wantWord, want)
	}
}

func checkNewState(t *testing.T, text string, want impl.State, wantOK bool) {
	t.Helper()
	if got, ok := impl.NewState(text); got != want || ok != wantOK {
		t.Errorf("NewState(%.60q) = %s, %v; want %s, %v", text, shownState(got), ok, shownState(want), wantOK)
	}
}

func checkApplyAll(t *testing.T, s impl.State, l []impl.Atom, want impl.State, wantOK bool) {
	t.Helper()
	withList(t, "ApplyAtoms", l, func(l []impl.Atom) {
		if got, ok := impl.ApplyAtoms(s, l); got != want || ok != wantOK {
			t.Errorf("ApplyAtoms(%s, %s) = %s, %v; want %s, %v", shownState(s), shownAtoms(l), shownState(got), ok, shownState(want), wantOK)
		}
	})
}

// checkApply also applies the atom as the only one of a list.
func checkApply(t *testing.T, s impl.State, a impl.Atom, want impl.State, wantOK bool) {
	t.Helper()
	if got, ok := impl.ApplyAtom(s, a); got != want || ok != wantOK {
		t.Errorf("ApplyAtom(%s, %v) = %s, %v; want %s, %v", shownState(s), a, shownState(got), ok, shownState(want), wantOK)
	}
	checkApplyAll(t, s, []impl.Atom{a}, want, wantOK)
}

func checkRender(t *testing.T, l []impl.Atom, want string, wantOK bool) {
	t.Helper()
	withList(t, "Render", l, func(l []impl.Atom) {
		if got, ok := impl.Render(l); got != want || ok != wantOK {
			t.Errorf("Render(%s) = %.100q, %v; want %.100q, %v", shownAtoms(l), got, ok, want, wantOK)
		}
	})
}

// checkFormatted applies l as the second reading does, at once and in two parts at every place.
func checkFormatted(t *testing.T, s impl.State, l ...impl.Atom) {
	t.Helper()
	want, wantOK := expectedAfterAll(s, l)
	checkApplyAll(t, s, l, want, wantOK)
	checkGrouped(t, s, l, want, wantOK)
	if wantOK {
		checkIsState(t, want, true)
	}
}

// checkGrouped expects that a list in two parts has the same effect as the whole list. What a
// failed part returns is no state to go on from.
func checkGrouped(t *testing.T, s impl.State, l []impl.Atom, want impl.State, wantOK bool) {
	t.Helper()
	for i := range len(l) + 1 {
		got, ok := impl.ApplyAtoms(s, l[:i])
		if ok {
			got, ok = impl.ApplyAtoms(got, l[i:])
		}
		if got != want || ok != wantOK {
			t.Errorf("%s behind %d atoms of %s: %s, %v; want %s, %v", shownState(s), i, shownAtoms(l), shownState(got), ok, shownState(want), wantOK)
		}
	}
}

// checkRendered expects the atoms of a notation to be rendered as text, by the second reading too.
func checkRendered(t *testing.T, notation, text string) {
	t.Helper()
	l := expectedAtoms(notation)
	if len(l) == 0 {
		t.Errorf("not what the test needs: %q", notation)
	}
	checkRender(t, l, text, true)
	checkFormatted(t, stateOf("|", "j"), l...)
	if s, ok := expectedAfterAll(stateOf("|", "j"), l); s.Text != text || !ok {
		t.Errorf("the second reading of %q differs: %s, %v", notation, shownState(s), ok)
	}
}

// checkStep expects the state after one atom, by the second reading too.
func checkStep(t *testing.T, s impl.State, a impl.Atom, want impl.State) {
	t.Helper()
	checkApply(t, s, a, want, true)
	if got, ok := expectedAfter(s, a); got != want || !ok {
		t.Errorf("the second reading of %s, %v differs: %s, %v", shownState(s), a, shownState(got), ok)
	}
}

func checkNoStep(t *testing.T, s impl.State, a impl.Atom) {
	t.Helper()
	checkApply(t, s, a, noState, false)
	if _, ok := expectedAfter(s, a); ok {
		t.Errorf("the second reading of %s, %v differs", shownState(s), a)
	}
}

// atomsOfAllKinds has all kinds, and several texts where these make a difference.
func atomsOfAllKinds() []impl.Atom {
	return []impl.Atom{
		word("do"), word("Do"), word("9"), suffix("ing"), suffix("s"), suffix("S"), prefix("un"), prefix("Un"),
		infix("-"), infix("n"), glue("a"), glue("B"), stop("."), stop("?"), pause(","), capNext, lowerNext, capLast,
	}
}

func TestConstantOfChapter12(t *testing.T) {
	if impl.MaxOutput != 2000 {
		t.Error("output", impl.MaxOutput)
	}
}

func TestTheExampleOfFormatting(t *testing.T) {
	l := []impl.Atom{prefix("un"), word("do"), suffix("ing"), stop("."), word("cat")}
	checkRender(t, l, "undoing. Cat", true)
	checkRendered(t, "{un^} do {^ing} {.} cat", "undoing. Cat")
	checkApplyAll(t, stateOf("|", "j"), l, stateOf("undoing. |Cat", ""), true)
}

func TestNewState(t *testing.T) {
	checkNewState(t, "", impl.State{Joined: true}, true)
	checkNewState(t, "so", impl.State{Text: "so", Word: 2}, true)
	checkNewState(t, " ", impl.State{Text: " ", Word: 1}, true)
	checkNewState(t, "A cat. ", impl.State{Text: "A cat. ", Word: 7}, true)
	checkNewState(t, "{.}#>^&", impl.State{Text: "{.}#>^&", Word: 7}, true)
	for _, n := range []int{1, 60, 61, 255, 256, 1999, 2000} {
		checkNewState(t, strings.Repeat("x", n), impl.State{Text: strings.Repeat("x", n), Word: n}, true)
	}
	for _, n := range []int{2001, 2002, 4000, 1 << 16, 1<<16 + 1} {
		checkNewState(t, strings.Repeat("x", n), noState, false)
	}
}

// Every byte but 32 to 126 spoils a text, wherever it stands.
func TestEveryByteOfAText(t *testing.T) {
	for c := range 256 {
		b := string([]byte{byte(c)})
		for _, text := range []string{b, b + "so", "s" + b + "o", "so" + b, strings.Repeat("x", 1999) + b, b + strings.Repeat("x", 1999)} {
			want, wantOK := impl.State{Text: text, Word: len(text)}, c >= 32 && c <= 126
			checkIsState(t, want, wantOK)
			checkIsState(t, impl.State{Text: text, Joined: true, Glued: true, CapNext: 2}, wantOK)
			if !wantOK {
				want = noState
			}
			checkNewState(t, text, want, wantOK)
		}
	}
	for _, text := range []string{"a\u00e9", "\u2019", "\U0001f600", "\ufffd", "a\tb", "a\nb", "\r"} {
		checkNewState(t, text, noState, false)
		checkIsState(t, impl.State{Text: text}, false)
	}
}

func TestStates(t *testing.T) {
	for _, flags := range allFlags {
		for _, text := range []string{"|", "so|", "|so", "s|o", "so |run", "so| run", " | ", "|" + strings.Repeat("~", 2000), strings.Repeat(" ", 2000) + "|"} {
			checkIsState(t, stateOf(text, flags), true)
		}
	}
	checkIsState(t, noState, true)
}

func TestLastWord(t *testing.T) {
	for text, want := range map[string]string{
		"|": "", "so|": "", "|so": "so", "so |run": "run", "so |run.": "run.", "|so run": "so run", "so| run": " run",
		strings.Repeat("x", 1999) + "|y": "y", "|" + strings.Repeat("x", 2000): strings.Repeat("x", 2000),
	} {
		for _, flags := range allFlags {
			if got, ok := impl.LastWord(stateOf(text, flags)); got != want || !ok {
				t.Errorf("LastWord(%s) = %.60q, %v", shownState(stateOf(text, flags)), got, ok)
			}
		}
	}
	for _, s := range invalidStates() {
		checkIsState(t, s, false)
	}
}

// invalidStates has one field that is wrong in each state.
func invalidStates() []impl.State {
	var l []impl.State
	for _, good := range []impl.State{noState, stateOf("|", "jg"), stateOf("so |run", ""), stateOf("so |run", "jg"), stateOf("so run|", "g1")} {
		for _, c := range []int{-1, 3, -2, 4, 256, 256 + 1, 1 << 32, 1<<32 + 1, math.MaxInt, math.MinInt, math.MinInt + 1} {
			bad := good
			bad.CapNext = c
			l = append(l, bad)
		}
		n := len(good.Text)
		for _, w := range []int{-1, n + 1, -2, n + 2, -n - 1, 2000, 2001, 256 + n, 1 << 32, 1<<32 + n, math.MaxInt, math.MinInt, math.MinInt + n} {
			bad := good
			bad.Word = w
			l = append(l, bad)
		}
		for _, text := range []string{"so run\x1f", "\x7fso run", "so r\x00un", "so run\n", "so \xff run", "so run\x80", strings.Repeat("x", 2001), strings.Repeat("x", 1<<17)} {
			bad := good
			bad.Text = text
			l = append(l, bad)
		}
	}
	return l
}

func TestInvalidStates(t *testing.T) {
	for _, s := range invalidStates() {
		checkIsState(t, s, false)
		checkApplyAll(t, s, nil, noState, false)
		checkApplyAll(t, s, []impl.Atom{capNext, capLast}, noState, false)
		checkApplyAll(t, s, slices.Repeat([]impl.Atom{capNext}, 601), noState, false)
		for _, a := range append(atomsOfAllKinds(), noAtom) {
			checkApply(t, s, a, noState, false)
		}
	}
}

func TestTheBoundsOfCapNextAndWord(t *testing.T) {
	for _, text := range []string{"", "a", "so run", strings.Repeat("x", 2000)} {
		for c := -3; c <= 5; c++ {
			checkIsState(t, impl.State{Text: text, CapNext: c}, c >= 0 && c <= 2)
		}
		for _, w := range []int{-1, 0, len(text) - 1, len(text), len(text) + 1} {
			checkIsState(t, impl.State{Text: text, Word: w}, w >= 0 && w <= len(text))
		}
	}
}

// invalidAtoms has each reason for which an atom is none.
func invalidAtoms() []impl.Atom {
	l := []impl.Atom{
		noAtom, atom(0, "a"), atom(11, "a"), atom(11, ""), atom(-1, ""), atom(-1, "a"), atom(1<<32+1, "a"), atom(1<<32+8, ""), atom(math.MaxInt, "a"), atom(math.MinInt, ""),
		stop(""), stop(","), stop(".."), stop("a"), pause(""), pause("."), pause(",,"), pause("a"),
	}
	for _, kind := range commandKinds {
		l = append(l, atom(kind, "a"), atom(kind, "-|"), atom(kind, " "))
	}
	for _, kind := range textKinds {
		for _, text := range []string{"", "a b", " ", "{", "a}", "^a", "a&", "#", ">", "\x1f", "a\x7f", "\x00", "\u00e9", strings.Repeat("a", 21), strings.Repeat("a", 100000)} {
			l = append(l, atom(kind, text))
		}
	}
	return l
}

// An invalid atom fails alone, and in a list wherever it stands.
func TestInvalidAtoms(t *testing.T) {
	good := []impl.Atom{word("do"), suffix("ing"), stop(".")}
	for _, bad := range invalidAtoms() {
		for _, s := range []impl.State{noState, stateOf("|", "j"), stateOf("so |run", "g1"), stateOf(strings.Repeat("x", 2000)+"|", "2")} {
			checkApply(t, s, bad, noState, false)
			for i := range len(good) + 1 {
				checkFormatted(t, s, slices.Insert(slices.Clone(good), i, bad)...)
			}
		}
		checkRender(t, []impl.Atom{bad}, "", false)
		for i := range len(good) + 1 {
			checkRender(t, slices.Insert(slices.Clone(good), i, bad), "", false)
		}
		checkRender(t, append(slices.Repeat([]impl.Atom{capNext}, 599), bad), "", false)
	}
}

func TestWords(t *testing.T) {
	checkRendered(t, "cat", "cat")
	checkRendered(t, "cat dog", "cat dog")
	checkRendered(t, "a b c d e f g h i j", "a b c d e f g h i j")
	checkRendered(t, "Cat DOG 9 . -|", "Cat DOG 9 . -|")
	for _, flags := range []string{"", "g"} {
		checkStep(t, stateOf("so |run", flags), word("do"), stateOf("so run |do", ""))
		checkStep(t, stateOf("so |run", "j"+flags), word("do"), stateOf("so run|do", ""))
		checkStep(t, stateOf("|", "j"+flags), word("do"), stateOf("|do", ""))
		checkStep(t, stateOf("|", flags), word("do"), stateOf(" |do", ""))
		checkStep(t, stateOf("so |", flags), word("do"), stateOf("so  |do", ""))
	}
}

func TestPrefixesAndInfixes(t *testing.T) {
	checkRendered(t, "{un^} do", "undo")
	checkRendered(t, "so {un^} do it", "so undo it")
	checkRendered(t, "{re^} {un^} do", "reundo")
	checkRendered(t, "one {^-^} two", "one-two")
	checkRendered(t, "one {^-^} {^-^} two", "one--two")
	checkRendered(t, "{^-^} two", "-two")
	checkRendered(t, "{un^} {^-^} do", "un-do")
	checkRendered(t, "one {^-^}", "one-")
	checkRendered(t, "{un^} {,} do", "un, do")
	for _, flags := range []string{"", "g"} {
		checkStep(t, stateOf("so |run", flags), prefix("un"), stateOf("so run |un", "j"))
		checkStep(t, stateOf("so |run", "j"+flags), prefix("un"), stateOf("so run|un", "j"))
		checkStep(t, stateOf("so |run", flags), infix("-"), stateOf("so |run-", "j"))
		checkStep(t, stateOf("so |run", "j1"+flags), infix("x"), stateOf("so |runx", "j1"))
		checkStep(t, stateOf("so |run", "2"+flags), infix("X"), stateOf("so |runX", "j2"))
	}
}

func TestStopsAndPauses(t *testing.T) {
	checkRendered(t, "a {,} b {!} c", "a, b! C")
	checkRendered(t, "{.} a", ". A")
	checkRendered(t, "{,} a", ", a")
	checkRendered(t, "a {.} {?} b", "a.? B")
	checkRendered(t, "a {.} {,} b", "a., B")
	for _, mark := range []string{".", "!", "?"} {
		for _, flags := range allFlags {
			checkStep(t, stateOf("so |run", flags), stop(mark), stateOf("so |run"+mark, "1"))
		}
	}
	for _, mark := range []string{",", ";", ":"} {
		for _, flags := range allFlags {
			checkStep(t, stateOf("so |run", flags), pause(mark), stateOf("so |run"+mark, strings.Trim(flags, "jg")))
		}
	}
}

func TestAStopFollowedByEachKind(t *testing.T) {
	checkRendered(t, "a {.} b", "a. B")
	checkRendered(t, "a {.} B", "a. B")
	checkRendered(t, "a {.} {un^} do", "a. Undo")
	checkRendered(t, "a {.} {^-^} b", "a.-B")
	checkRendered(t, "a {.} {^s} b", "a.s B")
	checkRendered(t, "a {.} {&b} {&c}", "a. Bc")
	checkRendered(t, "a {.} {!} b", "a.! B")
	checkRendered(t, "a {.} {,} b", "a., B")
	checkRendered(t, "a {.} {-|} b", "a. B")
	checkRendered(t, "a {.} {>} Bob", "a. bob")
	checkRendered(t, "a {.} {*-|} b", "A. B")
	after := stateOf("so |run.", "1")
	for a, want := range map[impl.Atom]impl.State{
		word("do"): stateOf("so run. |Do", ""), word("9"): stateOf("so run. |9", ""), prefix("un"): stateOf("so run. |Un", "j"),
		infix("x"): stateOf("so |run.x", "j1"), suffix("s"): stateOf("so |run.s", "1"), glue("a"): stateOf("so run. |A", "g"),
		stop("?"): stateOf("so |run.?", "1"), pause(","): stateOf("so |run.,", "1"),
		capNext: after, lowerNext: stateOf("so |run.", "2"), capLast: stateOf("so |Run.", "1"),
	} {
		checkStep(t, after, a, want)
	}
}

// Every first byte that a string may have, before an end whose case must not change.
func TestTheCaseOfTheFirstByte(t *testing.T) {
	for i := range len(wordBytes) {
		for _, rest := range []string{"", "a", "Z", "aZ", "~"} {
			text := wordBytes[i:i+1] + rest
			large, small := strings.ToUpper(text[:1])+rest, strings.ToLower(text[:1])+rest
			for flags, want := range map[string]string{"": text, "1": large, "2": small} {
				checkStep(t, stateOf("so |run", flags), word(text), stateOf("so run |"+want, ""))
				checkStep(t, stateOf("so |run", "jg"+flags), word(text), stateOf("so run|"+want, ""))
				checkStep(t, stateOf("so |run", flags), prefix(text), stateOf("so run |"+want, "j"))
				checkStep(t, stateOf("so |run", flags), glue(text), stateOf("so run |"+want, "g"))
				checkStep(t, stateOf("so |run", "g"+flags), glue(text), stateOf("so |run"+want, "g"))
				checkStep(t, stateOf("so |run", flags), infix(text), stateOf("so |run"+text, "j"+flags))
				checkStep(t, stateOf("So |Run", flags), suffix(text), stateOf("So |Run"+text, flags))
			}
		}
	}
}

func TestCapNextAndLowerNext(t *testing.T) {
	checkRendered(t, "{-|} cat dog", "Cat dog")
	checkRendered(t, "{>} CAT DOG", "cAT DOG")
	checkRendered(t, "{-|} Cat", "Cat")
	checkRendered(t, "{>} cat", "cat")
	checkRendered(t, "{-|} 9 cat", "9 cat")
	checkRendered(t, "{-|} {>} Cat", "cat")
	checkRendered(t, "{>} {-|} cat", "Cat")
	checkRendered(t, "a {-|} {,} b", "a, B")
	checkRendered(t, "a {-|} {^s} b", "as B")
	checkRendered(t, "{-|} {un^} do", "Undo")
	checkRendered(t, "{un^} {-|} do", "unDo")
	checkRendered(t, "one {^-^} {-|} two", "one-Two")
	checkRendered(t, "one {-|} {^-^} two", "one-Two")
	checkRendered(t, "{>} {.} Bob", ". Bob")
	for _, flags := range allFlags {
		kept := strings.Trim(flags, "12")
		checkStep(t, stateOf("so |run", flags), capNext, stateOf("so |run", kept+"1"))
		checkStep(t, stateOf("so |run", flags), lowerNext, stateOf("so |run", kept+"2"))
	}
}

func TestGluedLetters(t *testing.T) {
	checkRendered(t, "{&a}", "a")
	checkRendered(t, "{&a} {&b} c", "ab c")
	checkRendered(t, "a {&b} {&c}", "a bc")
	checkRendered(t, "{&a} {&b} {&c} {&d} e {&f}", "abcd e f")
	checkRendered(t, "{&a} {,} {&b}", "a, b")
	checkRendered(t, "{&a} {^s} {&b}", "as b")
	checkRendered(t, "{&a} {^-^} {&b} {&c}", "a-bc")
	checkRendered(t, "{&a} {un^} {&b}", "a unb")
	checkRendered(t, "{un^} {&a} {&b} c", "unab c")
	checkRendered(t, "{&r} {&u} {&n} {^ing}", "running")
	// Word stays where the first of them starts.
	s := stateOf("so|", "")
	for i, want := range []string{"so |a", "so |aB", "so |aBc", "so |aBc9", "so |aBc9."} {
		a := glue("aBc9."[i : i+1])
		checkStep(t, s, a, stateOf(want, "g"))
		s = stateOf(want, "g")
	}
	for _, flags := range []string{"", "1", "2"} {
		checkStep(t, stateOf("so |9", "g"+flags), glue("9"), stateOf("so |99", "g"))
		checkStep(t, stateOf("so |9", "jg"+flags), glue("9"), stateOf("so |99", "g"))
		checkStep(t, stateOf("so |9", flags), glue("9"), stateOf("so 9 |9", "g"))
		checkStep(t, stateOf("so |9", "j"+flags), glue("9"), stateOf("so 9|9", "g"))
		checkStep(t, stateOf("so 9|", "g"+flags), glue("9"), stateOf("so 9|9", "g"))
		checkStep(t, stateOf("|", "g"+flags), glue("9"), stateOf("|9", "g"))
	}
}

// A command between two glued letters leaves them together.
func TestACapitalBeforeAGluedLetter(t *testing.T) {
	checkRendered(t, "{-|} {&a} {&b}", "Ab")
	checkRendered(t, "{&a} {-|} {&b} {&c}", "aBc")
	checkRendered(t, "{-|} {&a} {-|} {&b} c", "AB c")
	checkRendered(t, "{>} {&A} {&B}", "aB")
	checkRendered(t, "{&A} {>} {&B} {&C}", "AbC")
	checkRendered(t, "{&a} {-|} {>} {&B}", "ab")
	checkRendered(t, "{&a} {-|} b", "a B")
	checkRendered(t, "a {-|} {&b} {&c}", "a Bc")
	checkRendered(t, "a {.} {&b} {&c}", "a. Bc")
	checkRendered(t, "{&a} {.} {&b} {&c}", "a. Bc")
	checkRendered(t, "{&a} {&b} {*-|} {&c}", "Abc")
	checkRendered(t, "{&a} {*-|} {-|} {&b}", "AB")
	checkRendered(t, "{-|} {&9} {&b}", "9b")
	checkStep(t, stateOf("so |a", "g1"), glue("b"), stateOf("so |aB", "g"))
	checkStep(t, stateOf("so |a", "g2"), glue("B"), stateOf("so |ab", "g"))
	checkStep(t, stateOf("so |a", "1"), glue("b"), stateOf("so a |B", "g"))
	checkStep(t, stateOf("so |a", "j1"), glue("b"), stateOf("so a|B", "g"))
	checkStep(t, stateOf("so |a", "g"), capNext, stateOf("so |a", "g1"))
	checkStep(t, stateOf("so |a", "g"), capLast, stateOf("so |A", "g"))
}

func TestCapLast(t *testing.T) {
	checkRendered(t, "cat {*-|} dog", "Cat dog")
	checkRendered(t, "a cat {*-|}", "a Cat")
	checkRendered(t, "{*-|} cat", "cat")
	checkRendered(t, "Cat {*-|} {*-|}", "Cat")
	checkRendered(t, "9a {*-|}", "9a")
	checkRendered(t, "happy {^ness} {*-|}", "Happiness")
	checkRendered(t, "{un^} {*-|} do", "Undo")
	checkRendered(t, "{un^} do {*-|}", "unDo")
	checkRendered(t, "one {^-^} {*-|} two", "One-two")
	checkRendered(t, "one {^-^} two {*-|}", "one-Two")
	checkRendered(t, "cat {.} {*-|} dog", "Cat. Dog")
	checkRendered(t, "cat {,} {*-|} dog", "Cat, dog")
	for _, flags := range allFlags {
		checkStep(t, stateOf("so |run", flags), capLast, stateOf("so |Run", flags))
		checkStep(t, stateOf("|so run", flags), capLast, stateOf("|So run", flags))
		checkStep(t, stateOf("so run|z", flags), capLast, stateOf("so run|Z", flags))
		for _, text := range []string{"|", "so run|", "so |Run", "so| run", "so |9run", "so |`", "so |{run", "so |@", "so |[", "|.a", "|~"} {
			checkStep(t, stateOf(text, flags), capLast, stateOf(text, flags))
		}
	}
	for c := 32; c <= 126; c++ {
		b := string([]byte{byte(c)})
		checkStep(t, impl.State{Text: "so " + b + "un", Word: 3}, capLast, impl.State{Text: "so " + strings.ToUpper(b) + "un", Word: 3})
		checkStep(t, impl.State{Text: "so" + b, Word: 2}, capLast, impl.State{Text: "so" + strings.ToUpper(b), Word: 2})
	}
}

func TestSuffixes(t *testing.T) {
	checkRendered(t, "make {^ing}", "making")
	checkRendered(t, "so run {^ing} on", "so running on")
	checkRendered(t, "try {^s}", "tries")
	checkRendered(t, "box {^s}", "boxes")
	checkRendered(t, "die {^ing}", "dying")
	checkRendered(t, "happy {^ness}", "happiness")
	checkRendered(t, "hope {^ing} {^s}", "hopings")
	checkRendered(t, "hope {^ful} {^ly}", "hopefully")
	// The last word is none, or the string is none.
	checkRendered(t, "Go {^s}", "Gos")
	checkRendered(t, "{-|} make {^ing}", "Makeing")
	checkRendered(t, "make {*-|} {^ing}", "Makeing")
	checkRendered(t, "re-make {^ing}", "re-makeing")
	checkRendered(t, "m8ke {^ing}", "m8keing")
	checkRendered(t, "make {^Ing}", "makeIng")
	checkRendered(t, "try {^'s}", "try's")
	checkRendered(t, "make {^in'}", "makein'")
	checkRendered(t, "make {^s.} {^ing}", "makes.ing")
	checkRendered(t, "{^s}", "s")
	checkRendered(t, "{^s} {^s}", "ses")
	checkRendered(t, "{^make} {^ing}", "making")
	for _, flags := range allFlags {
		kept := strings.Trim(flags, "jg")
		checkStep(t, stateOf("so |make", flags), suffix("ing"), stateOf("so |making", kept))
		checkStep(t, stateOf("so |Make", flags), suffix("ing"), stateOf("so |Makeing", kept))
		checkStep(t, stateOf("so make|", flags), suffix("ing"), stateOf("so make|ing", kept))
		checkStep(t, stateOf("|so make", flags), suffix("ing"), stateOf("|so makeing", kept))
		checkStep(t, stateOf("so m|ake", flags), suffix("ing"), stateOf("so m|aking", kept))
		checkStep(t, stateOf("so run|e", flags), suffix("ing"), stateOf("so run|eing", kept))
		checkStep(t, stateOf("|", flags), suffix("ing"), stateOf("|ing", kept))
	}
}

func TestSuffixesBehindOtherKinds(t *testing.T) {
	checkRendered(t, "{make^} {^ing} so", "making so")
	checkRendered(t, "so {make^} make {^ing}", "so makemaking")
	checkRendered(t, "one {^-^} {^s}", "one-s")
	checkRendered(t, "ru {^n^} {^ing}", "running")
	checkRendered(t, "one {^-^} make {^ing}", "one-making")
	checkRendered(t, "make {.} {^ing} so", "make.ing So")
	checkRendered(t, "make {,} {^ing} so", "make,ing so")
	checkRendered(t, "make {-|} {^ing} so", "making So")
	checkRendered(t, "make {>} {^ing} So", "making so")
	checkRendered(t, "{&m} {&a} {&k} {&e} {^ing} {&a}", "making a")
	checkRendered(t, "{&A} {^s}", "As")
	checkRendered(t, "x {&y} {^s}", "x ys")
}

// JoinSuffix gives no word of more than 24 letters; behind a longer one the string is appended.
func TestSuffixesThatMakeAWordTooLong(t *testing.T) {
	for n := 19; n <= 26; n++ {
		for _, ending := range []string{"b", "y", "x", "ie", "e", "an"} {
			for _, end := range []string{"s", "ing", "ed", "ness", "a", "abcdefghijklmnopqrst"} {
				last := longWord(n, ending)
				checkStep(t, stateOf("so |"+last, "j"), suffix(end), stateOf("so |"+expectedJoined(last, end), ""))
			}
		}
	}
	twentyTwo, twentyThree := longWord(22, "y"), longWord(23, "y")
	checkStep(t, stateOf("|"+twentyTwo, ""), suffix("s"), stateOf("|"+twentyTwo[:21]+"ies", ""))
	checkStep(t, stateOf("|"+twentyThree, ""), suffix("s"), stateOf("|"+twentyThree+"s", ""))
	checkStep(t, stateOf("|"+longWord(24, "e"), ""), suffix("ing"), stateOf("|"+longWord(24, "e")+"ing", ""))
	checkStep(t, stateOf("|"+longWord(24, "e"), ""), suffix("e"), stateOf("|"+longWord(24, "e"), ""))
	checkStep(t, stateOf("|"+longWord(25, "e"), ""), suffix("e"), stateOf("|"+longWord(25, "e")+"e", ""))
}

// filled puts bytes before the bar so that the text has n bytes in all.
func filled(n int, text, flags string) impl.State {
	return stateOf(strings.Repeat("x", n-len(text)+1)+text, flags)
}

func TestTheOutputAtTheLimit(t *testing.T) {
	for _, text := range []string{"|", "|.", ".|", "|A", " |"} {
		full := filled(2000, text, "")
		for _, a := range []impl.Atom{word("a"), prefix("a"), glue("a"), infix("a"), suffix("a"), stop("."), pause(",")} {
			for _, flags := range allFlags {
				checkNoStep(t, filled(2000, text, flags), a)
			}
		}
		checkStep(t, full, capNext, filled(2000, text, "1"))
		checkStep(t, full, lowerNext, filled(2000, text, "2"))
		checkStep(t, full, capLast, full)
	}
	checkStep(t, filled(2000, "|a", ""), capLast, filled(2000, "|A", ""))
	checkStep(t, filled(2000, "|abc", "jg1"), capLast, filled(2000, "|Abc", "jg1"))
	for _, a := range []impl.Atom{infix("a"), suffix("a"), stop("."), pause(",")} {
		if s, ok := impl.ApplyAtom(filled(1999, "|A", ""), a); s.Text != filled(1999, "|A", "").Text+a.Text || !ok {
			t.Error("a byte more", a, shownState(s), ok)
		}
	}
	for _, n := range []int{1, 2, 10, 19, 20} {
		text := strings.Repeat("b", n)
		for _, kind := range textKinds {
			for size := 1977; size <= 2000; size++ {
				for _, flags := range allFlags {
					checkFormatted(t, filled(size, "|A", flags), atom(kind, text))
				}
			}
		}
	}
}

// Where there is no room for the space, the string would fit without it.
func TestASpaceAtTheLimit(t *testing.T) {
	for n := 1; n <= 20; n++ {
		text := strings.Repeat("9", n)
		end := strings.Repeat("x", 2000-n)
		for kind, flags := range map[int]string{impl.AtomWord: "", impl.AtomPrefix: "j", impl.AtomGlue: "g"} {
			checkStep(t, stateOf("|"+end, "j"), atom(kind, text), stateOf(end+"|"+text, flags))
			checkNoStep(t, stateOf("|"+end, ""), atom(kind, text))
			checkStep(t, stateOf("|"+end[1:], ""), atom(kind, text), stateOf(end[1:]+" |"+text, flags))
			checkNoStep(t, stateOf("|"+end+"x", "j"), atom(kind, text))
		}
		checkStep(t, stateOf("|"+end, "g"), glue(text), stateOf("|"+end+text, "g"))
		checkNoStep(t, stateOf("|"+end+"x", "g"), glue(text))
		checkNoStep(t, stateOf("|"+end+"x", "jg"), glue(text))
	}
}

// What counts is the length with the spelling, which may be more or less than that of both parts.
func TestSpellingAtTheLimit(t *testing.T) {
	for _, x := range []struct{ last, suffix, joined string }{
		{"make", "e", "make"}, {"make", "ing", "making"}, {"die", "ing", "dying"}, {"happy", "ness", "happiness"},
		{"run", "ing", "running"}, {"box", "s", "boxes"}, {"try", "s", "tries"}, {"walk", "ed", "walked"}, {"Make", "e", "Makee"}, {"Run", "ing", "Runing"},
	} {
		longer := len(x.joined) - len(x.last)
		checkStep(t, filled(2000-longer, "|"+x.last, "jg2"), suffix(x.suffix), filled(2000, "|"+x.joined, "2"))
		checkStep(t, filled(1999-longer, "|"+x.last, "1"), suffix(x.suffix), filled(1999, "|"+x.joined, "1"))
		if longer > 0 {
			checkNoStep(t, filled(2001-longer, "|"+x.last, "jg2"), suffix(x.suffix))
		}
	}
	checkStep(t, filled(2000, "|make", ""), suffix("a"), filled(2000, "|maka", ""))
	checkNoStep(t, filled(2000, "|make", ""), suffix("s"))
	checkNoStep(t, filled(1997, "|run", ""), suffix("ing"))
}

func TestRenderAtTheLimit(t *testing.T) {
	twenty := word(strings.Repeat("x", 20))
	most := slices.Repeat([]impl.Atom{twenty}, 95)
	text := strings.Repeat(twenty.Text+" ", 95)
	checkRender(t, most, text[:1994], true)
	checkRender(t, append(slices.Clone(most), word("abcde")), text+"abcde", true)
	checkRender(t, append(slices.Clone(most), word("abcdef")), "", false)
	checkRender(t, append(slices.Clone(most), word("abcd"), stop(".")), text+"abcd.", true)
	checkRender(t, append(slices.Clone(most), word("abcde"), stop(".")), "", false)
	checkRender(t, append(slices.Clone(most), word("abcde"), capLast, capNext, lowerNext), text+"Abcde", true)
	checkRender(t, append(slices.Clone(most), twenty, capNext), "", false)
	checkRender(t, slices.Repeat([]impl.Atom{twenty}, 600), "", false)
	checkRender(t, slices.Repeat([]impl.Atom{infix("abcd")}, 500), strings.Repeat("abcd", 500), true)
	checkRender(t, slices.Repeat([]impl.Atom{infix("abcd")}, 501), "", false)
	checkRender(t, slices.Repeat([]impl.Atom{glue("abcd")}, 500), strings.Repeat("abcd", 500), true)
	checkRender(t, slices.Repeat([]impl.Atom{prefix("abcd")}, 500), strings.Repeat("abcd", 500), true)
	checkRender(t, slices.Repeat([]impl.Atom{suffix("abcD")}, 501), "", false)
}

func TestNoAtoms(t *testing.T) {
	checkRender(t, nil, "", true)
	checkRender(t, []impl.Atom{}, "", true)
	for _, flags := range allFlags {
		for _, text := range []string{"|", "so |run", "so run|", "|" + strings.Repeat("x", 2000)} {
			checkApplyAll(t, stateOf(text, flags), nil, stateOf(text, flags), true)
			checkApplyAll(t, stateOf(text, flags), []impl.Atom{}, stateOf(text, flags), true)
		}
	}
}

// The limit is that of the atoms, whether or not they write anything.
func TestTheNumberOfAtoms(t *testing.T) {
	for _, a := range append(atomsOfAllKinds(), word("a"), glue("a"), infix("a"), suffix("a")) {
		for _, n := range []int{599, 600, 601, 602, 1200, 1 << 16} {
			l := slices.Repeat([]impl.Atom{a}, n)
			want, wantOK := expectedAfterAll(stateOf("|", "j"), l)
			checkApplyAll(t, stateOf("|", "j"), l, want, wantOK)
			checkRender(t, l, want.Text, wantOK)
			if n > 600 && wantOK {
				t.Error("too many for the second reading", n)
			}
		}
	}
	for n, wantOK := range map[int]bool{600: true, 601: false} {
		words, commands := slices.Repeat([]impl.Atom{word("a")}, n), slices.Repeat([]impl.Atom{capLast}, n)
		text := strings.Repeat("a ", n)[:2*n-1]
		if !wantOK {
			text = ""
		}
		checkRender(t, words, text, wantOK)
		checkRender(t, commands, "", wantOK)
	}
	full := stateOf("|"+strings.Repeat("A", 2000), "jg2")
	checkApplyAll(t, full, slices.Repeat([]impl.Atom{capLast, lowerNext}, 300), full, true)
	checkApplyAll(t, full, append(slices.Repeat([]impl.Atom{capLast, lowerNext}, 300), capLast), noState, false)
}

// What a longer list may not do at once it may do in parts.
func TestMoreAtomsInParts(t *testing.T) {
	l := slices.Repeat([]impl.Atom{word("a"), stop("."), capLast}, 300)
	s, ok := impl.NewState("")
	for i := 0; i < len(l); i += 150 {
		if ok {
			s, ok = impl.ApplyAtoms(s, l[i:i+150])
		}
	}
	if want := strings.Repeat("A. ", 300); s.Text != want[:899] || s.Word != 897 || !ok {
		t.Error("in parts", shownState(s), ok)
	}
	checkApplyAll(t, stateOf("|", "j"), l, noState, false)
}

func TestAListWhoseLastAtomIsInvalid(t *testing.T) {
	for _, n := range []int{0, 1, 9, 598, 599} {
		for _, bad := range []impl.Atom{noAtom, word(""), word("a b"), stop(","), atom(impl.AtomCapNext, "a"), atom(11, "")} {
			l := append(slices.Repeat([]impl.Atom{glue("a")}, n), bad)
			checkApplyAll(t, stateOf("|", "j"), l, noState, false)
			checkApplyAll(t, stateOf("so |run", "g"), l, noState, false)
			checkRender(t, l, "", false)
			checkApplyAll(t, stateOf("so |run", "g"), l[:n], stateOf("so |run"+strings.Repeat("a", n), "g"), true)
			checkRender(t, l[:n], strings.Repeat("a", n), true)
		}
	}
}

// The step that fails stands at every place of a list whose other atoms write nothing.
func TestAListInWhichAStepFails(t *testing.T) {
	quiet := []impl.Atom{capNext, lowerNext, capLast, capNext}
	full := filled(2000, "|a", "")
	for _, loud := range []impl.Atom{word("a"), stop("."), suffix("s"), infix("-"), glue("a"), pause(":"), prefix("a")} {
		for i := range len(quiet) + 1 {
			l := slices.Insert(slices.Clone(quiet), i, loud)
			checkFormatted(t, full, l...)
			checkApplyAll(t, full, l, noState, false)
		}
	}
	checkApplyAll(t, full, quiet, filled(2000, "|A", "1"), true)
}

// statesAround have all flags and the last word at several places.
func statesAround() []impl.State {
	var l []impl.State
	for _, flags := range allFlags {
		for _, text := range []string{"|", "|make", "so |make", "so make|", "so |Run.", "|so run"} {
			l = append(l, stateOf(text, flags))
		}
	}
	return l
}

func TestEachKindAfterEach(t *testing.T) {
	for _, s := range statesAround() {
		checkFormatted(t, s)
		for _, a := range atomsOfAllKinds() {
			for _, b := range atomsOfAllKinds() {
				checkFormatted(t, s, a, b)
			}
		}
	}
}

func TestAllTriplesOfAtoms(t *testing.T) {
	few := []impl.Atom{word("run"), suffix("ing"), prefix("un"), infix("-"), glue("a"), stop("."), pause(","), capNext, lowerNext, capLast}
	for _, kinds := range listsOver([]int{0, 1, 2, 3, 4, 5, 6, 7, 8, 9}, 3) {
		l := []impl.Atom{few[kinds[0]], few[kinds[1]], few[kinds[2]]}
		for _, s := range []impl.State{stateOf("|", "j"), stateOf("so |run", ""), stateOf("so |a", "g1"), stateOf("so |Un", "j2")} {
			checkFormatted(t, s, l...)
		}
		want, wantOK := expectedAfterAll(stateOf("|", "j"), l)
		checkRender(t, l, want.Text, wantOK)
	}
}

// formattingAtom returns words and suffixes that the rules of spelling look at more often than
// randomAtom does.
func formattingAtom(r *rand.Rand) impl.Atom {
	switch r.Intn(4) {
	case 0:
		return atom(textKinds[r.Intn(5)], randomWord(r, 1+r.Intn(10)))
	case 1:
		return suffix(randomSuffix(r))
	case 2:
		return atomsOfAllKinds()[r.Intn(18)]
	default:
		return randomAtom(r)
	}
}

func randomAtoms(r *rand.Rand, n int) []impl.Atom {
	var l []impl.Atom
	for range n {
		l = append(l, formattingAtom(r))
	}
	return l
}

func randomState(r *rand.Rand, n int) impl.State {
	var text []byte
	for range n {
		text = append(text, []byte(" -aeiouAZbmnry.~")[r.Intn(16)])
	}
	s := impl.State{Text: string(text), Joined: r.Intn(2) == 0, Glued: r.Intn(2) == 0, CapNext: r.Intn(3), Word: n - min(n, r.Intn(8))}
	if r.Intn(2) == 0 {
		last := randomWord(r, min(n, 1+r.Intn(8)))
		s.Word = n - len(last)
		s.Text = s.Text[:s.Word] + last
	}
	return s
}

func TestRandomStatesAndAtoms(t *testing.T) {
	r := rand.New(rand.NewSource(12))
	tooLong, spelled := 0, 0
	for i := range 8000 {
		n := r.Intn(30)
		if i%4 == 0 {
			n = 1980 + r.Intn(21)
		}
		s, l := randomState(r, n), randomAtoms(r, 1+r.Intn(4))
		checkFormatted(t, s, l...)
		if _, ok := expectedAfterAll(s, l); !ok {
			tooLong++
		}
		if last := s.Text[s.Word:]; l[0].Kind == impl.AtomSuffix && expectedJoined(last, l[0].Text) != last+l[0].Text {
			spelled++
		}
	}
	if tooLong < 200 || tooLong > 4000 || spelled < 100 {
		t.Error("the states do not try all cases", tooLong, spelled)
	}
}

func TestRandomAtomsRendered(t *testing.T) {
	r := rand.New(rand.NewSource(121))
	rendered, tooMany, tooLong := 0, 0, 0
	for i := range 400 {
		most := []int{5, 100, 400, 600, 700}[i%5]
		l := randomAtoms(r, most-r.Intn(1+most/3))
		for j := range l {
			if i%2 == 0 && j%3 == 0 {
				l[j] = word(randomWord(r, 1+r.Intn(20)))
			}
		}
		want, wantOK := expectedAfterAll(stateOf("|", "j"), l)
		checkRender(t, l, want.Text, wantOK)
		switch {
		case wantOK:
			rendered++
		case len(l) > 600:
			tooMany++
		default:
			tooLong++
		}
	}
	if rendered < 150 || tooMany < 20 || tooLong < 40 {
		t.Error("the lists do not try both sides of the limits", rendered, tooMany, tooLong)
	}
}

// Promise 12, with the functions of the program on both sides: one atom at a time, all at once, in
// two parts at every place, and in many parts.
func TestTheResultDoesNotDependOnTheGrouping(t *testing.T) {
	r := rand.New(rand.NewSource(120))
	failed := 0
	for i := range 300 {
		s, l := randomState(r, []int{0, 10, 100, 1800}[i%4]), randomAtoms(r, r.Intn([]int{10, 40, 100, 200}[i%4]))
		want, wantOK := impl.ApplyAtoms(s, l)
		checkGrouped(t, s, l, want, wantOK)
		single, ok := s, true
		for _, a := range l {
			if ok {
				single, ok = impl.ApplyAtom(single, a)
			}
		}
		many, manyOK := s, true
		for from := 0; from < len(l) && manyOK; {
			n := min(r.Intn(8), len(l)-from)
			many, manyOK = impl.ApplyAtoms(many, l[from:from+n])
			from += n
		}
		if single != want || ok != wantOK || many != want || manyOK != wantOK {
			t.Errorf("%s: %s one by one, %s in parts, %s at once", shownAtoms(l), shownState(single), shownState(many), shownState(want))
		}
		if !wantOK {
			failed++
		}
	}
	if failed < 20 || failed > 200 {
		t.Error("the lists do not try both cases", failed)
	}
}

func TestTheMostAtomsInTwoParts(t *testing.T) {
	l := slices.Repeat([]impl.Atom{word("a"), glue("b"), stop("."), capNext, prefix("c"), capLast}, 100)
	checkFormatted(t, stateOf("|", "j"), l...)
	checkFormatted(t, stateOf("so |run", "g2"), l...)
}

// Chapter 5 reads the atoms of a translation, and Render applies them to the empty text.
func TestTranslationsRendered(t *testing.T) {
	for _, text := range validTexts {
		l, ok := impl.ParseTranslation(text)
		want, wantOK := expectedAfterAll(stateOf("|", "j"), expectedAtoms(text))
		if !ok {
			t.Errorf("not what the test needs: %q", text)
		}
		checkRender(t, l, want.Text, wantOK)
		s, _ := impl.NewState("")
		checkApplyAll(t, s, l, want, wantOK)
	}
}

// What a caller does with the atoms afterwards shows neither in an earlier result nor in a later
// one.
func TestStatesKeepNothingOfTheAtoms(t *testing.T) {
	l := expectedAtoms("{un^} make {^ing} {.} {&a} {&b}")
	want := stateOf("unmaking. |Ab", "g")
	first, ok := impl.ApplyAtoms(stateOf("|", "j"), l)
	text, textOK := impl.Render(l)
	last, lastOK := impl.LastWord(first)
	for i := range l {
		l[i] = word("changed")
	}
	if first != want || !ok || text != want.Text || !textOK || last != "Ab" || !lastOK {
		t.Error("kept", shownState(first), text, last)
	}
	checkApplyAll(t, first, l[:2], stateOf("unmaking. Ab changed |changed", ""), true)
	checkApplyAll(t, first, nil, want, true)
}

func TestAtomsBehindTheLastAreNotApplied(t *testing.T) {
	all := append(expectedAtoms("a {^b} {.} c"), noAtom, word("d"))
	for n := range len(all) + 1 {
		want, wantOK := expectedAfterAll(stateOf("so|", ""), all[:n])
		if wantOK != (n <= 4) {
			t.Error("not what the test needs", n)
		}
		checkApplyAll(t, stateOf("so|", ""), all[:n], want, wantOK)
	}
	checkRender(t, all[5:], "d", true)
}
