package tests

import (
	"fmt"
	"math"
	"math/rand"
	"slices"
	"strings"
	"testing"

	"loop.example/g00882/impl"
)

// Promise 5: atoms and translations round-trip through their notation. Promise 26, for chapter
// 5: every function returns for all arguments and modifies none of them.

// wordBytes lists all bytes of word text.
const wordBytes = "!\"$%'()*+,-./0123456789:;<=?@ABCDEFGHIJKLMNOPQRSTUVWXYZ[\\]_`abcdefghijklmnopqrstuvwxyz|~"

var textKinds = []int{impl.AtomWord, impl.AtomSuffix, impl.AtomPrefix, impl.AtomInfix, impl.AtomGlue}

var commandKinds = []int{impl.AtomCapNext, impl.AtomLowerNext, impl.AtomCapLast}

var noAtom impl.Atom

func atom(kind int, text string) impl.Atom { return impl.Atom{Kind: kind, Text: text} }

func word(text string) impl.Atom { return atom(impl.AtomWord, text) }

// written fills the notation of the document's table; no kind but those of the table has one.
func written(kind int, text string) string {
	table := []string{"", "Text", "{^Text}", "{Text^}", "{^Text^}", "{&Text}", "{Text}", "{Text}", "{-|}", "{>}", "{*-|}"}
	if kind < 0 || kind >= len(table) {
		return ""
	}
	return strings.Replace(table[kind], "Text", text, 1)
}

// expectedAtom takes from the notation all that may stand around a text, and then asks which
// kind puts just this around it. It returns noAtom if there is none.
func expectedAtom(notation string) impl.Atom {
	switch notation {
	case "{.}", "{!}", "{?}":
		return atom(impl.AtomStop, notation[1:2])
	case "{,}", "{;}", "{:}":
		return atom(impl.AtomPause, notation[1:2])
	case "{-|}":
		return atom(impl.AtomCapNext, "")
	case "{>}":
		return atom(impl.AtomLowerNext, "")
	case "{*-|}":
		return atom(impl.AtomCapLast, "")
	}
	text := strings.Trim(notation, "{}^&")
	if text == "" || len(text) > 20 || strings.Trim(text, wordBytes) != "" {
		return noAtom
	}
	for _, kind := range textKinds {
		if notation == written(kind, text) {
			return atom(kind, text)
		}
	}
	return noAtom
}

// expectedAtoms returns nothing if the text is no translation.
func expectedAtoms(text string) []impl.Atom {
	parts := strings.Split(text, " ")
	if len(text) > 60 || len(parts) > 10 {
		return nil
	}
	var l []impl.Atom
	for _, part := range parts {
		a := expectedAtom(part)
		if a == noAtom {
			return nil
		}
		l = append(l, a)
	}
	return l
}

func notationsOf(l []impl.Atom) string {
	var parts []string
	for _, a := range l {
		parts = append(parts, written(a.Kind, a.Text))
	}
	return strings.Join(parts, " ")
}

func checkParseAtom(t *testing.T, notation string, want impl.Atom) {
	t.Helper()
	if got, ok := impl.ParseAtom(notation); got != want || ok != (want != noAtom) {
		t.Errorf("ParseAtom(%.60q) = %d, %.60q, %v; want %v", notation, got.Kind, got.Text, ok, want)
	}
}

// checkFormatAtom expects an invalid atom if want is empty.
func checkFormatAtom(t *testing.T, a impl.Atom, want string) {
	t.Helper()
	if got := impl.IsValidAtom(a); got != (want != "") {
		t.Errorf("IsValidAtom(%d, %.60q) = %v", a.Kind, a.Text, got)
	}
	if got, ok := impl.FormatAtom(a); got != want || ok != (want != "") {
		t.Errorf("FormatAtom(%d, %.60q) = %.60q, %v; want %q", a.Kind, a.Text, got, ok, want)
	}
}

func checkAtom(t *testing.T, kind int, text, notation string) {
	t.Helper()
	checkFormatAtom(t, atom(kind, text), notation)
	checkParseAtom(t, notation, atom(kind, text))
}

// shownAtoms spares the reader most of the longest lists.
func shownAtoms(l []impl.Atom) string { return fmt.Sprintf("%.200s", fmt.Sprint(l)) }

// withList lends l to f with room behind its last atom, where nothing may be written either.
func withList(t *testing.T, name string, l []impl.Atom, f func(l []impl.Atom)) {
	t.Helper()
	all := append(slices.Clone(l), word("behind"), noAtom, atom(-7, "\x00"), word("all"))
	before := slices.Clone(all)
	f(all[:len(l)])
	if !slices.Equal(all, before) {
		t.Fatalf("%s changed %s to %s", name, shownAtoms(before), shownAtoms(all))
	}
}

// checkFormatTranslation expects a failure if want is empty.
func checkFormatTranslation(t *testing.T, l []impl.Atom, want string) {
	t.Helper()
	withList(t, "FormatTranslation", l, func(l []impl.Atom) {
		if got, ok := impl.FormatTranslation(l); got != want || ok != (want != "") {
			t.Errorf("FormatTranslation(%s) = %.100q, %v; want %q", shownAtoms(l), got, ok, want)
		}
	})
}

func checkPlainWords(t *testing.T, l []impl.Atom, want []string, wantOK bool) {
	t.Helper()
	withList(t, "PlainWords", l, func(l []impl.Atom) {
		if got, ok := impl.PlainWords(l); !slices.Equal(got, want) || ok != wantOK {
			t.Errorf("PlainWords(%s) = %.200q, %v; want %q, %v", shownAtoms(l), got, ok, want, wantOK)
		}
	})
}

// checkParseTranslation expects a failure if want is empty.
func checkParseTranslation(t *testing.T, text string, want ...impl.Atom) {
	t.Helper()
	if got, ok := impl.ParseTranslation(text); !slices.Equal(got, want) || ok != (len(want) > 0) {
		t.Errorf("ParseTranslation(%.100q) = %s, %v; want %s", text, shownAtoms(got), ok, shownAtoms(want))
	}
}

func checkTranslation(t *testing.T, text string, l ...impl.Atom) {
	t.Helper()
	checkFormatTranslation(t, l, text)
	checkParseTranslation(t, text, l...)
	var words []string
	for _, a := range l {
		if a.Kind == impl.AtomWord {
			words = append(words, a.Text)
		}
	}
	checkPlainWords(t, l, words, true)
}

func checkNoTranslation(t *testing.T, l ...impl.Atom) {
	t.Helper()
	checkFormatTranslation(t, l, "")
	checkPlainWords(t, l, nil, false)
}

func TestConstantsOfChapter5(t *testing.T) {
	kinds := []int{
		impl.AtomWord, impl.AtomSuffix, impl.AtomPrefix, impl.AtomInfix, impl.AtomGlue,
		impl.AtomStop, impl.AtomPause, impl.AtomCapNext, impl.AtomLowerNext, impl.AtomCapLast,
	}
	if impl.MaxTranslation != 60 || !slices.Equal(kinds, []int{1, 2, 3, 4, 5, 6, 7, 8, 9, 10}) {
		t.Error("constants", impl.MaxTranslation, kinds)
	}
}

func TestAnAtomOfEachKind(t *testing.T) {
	checkAtom(t, impl.AtomWord, "cat", "cat")
	checkAtom(t, impl.AtomSuffix, "ing", "{^ing}")
	checkAtom(t, impl.AtomPrefix, "un", "{un^}")
	checkAtom(t, impl.AtomInfix, "-", "{^-^}")
	checkAtom(t, impl.AtomGlue, "a", "{&a}")
	checkAtom(t, impl.AtomStop, ".", "{.}")
	checkAtom(t, impl.AtomStop, "!", "{!}")
	checkAtom(t, impl.AtomStop, "?", "{?}")
	checkAtom(t, impl.AtomPause, ",", "{,}")
	checkAtom(t, impl.AtomPause, ";", "{;}")
	checkAtom(t, impl.AtomPause, ":", "{:}")
	checkAtom(t, impl.AtomCapNext, "", "{-|}")
	checkAtom(t, impl.AtomLowerNext, "", "{>}")
	checkAtom(t, impl.AtomCapLast, "", "{*-|}")
}

// Behind or before other brackets these texts are no commands, and alone they are words.
func TestTextsThatOtherNotationsUse(t *testing.T) {
	for _, text := range []string{".", "!", "?", ",", ";", ":", "-", "|", "*", "<", "-|", "*-|", "*-", "|-", "(.)", "[-|]", "Text"} {
		checkAtom(t, impl.AtomWord, text, text)
		checkAtom(t, impl.AtomSuffix, text, "{^"+text+"}")
		checkAtom(t, impl.AtomPrefix, text, "{"+text+"^}")
		checkAtom(t, impl.AtomInfix, text, "{^"+text+"^}")
		checkAtom(t, impl.AtomGlue, text, "{&"+text+"}")
	}
}

func TestEveryByteOfWordText(t *testing.T) {
	for c := range 256 {
		b := string([]byte{byte(c)})
		for _, text := range []string{b, b + "a", "a" + b, "a" + b + "a", strings.Repeat(b, 20), strings.Repeat("~", 19) + b} {
			for _, kind := range textKinds {
				if strings.Contains(wordBytes, b) {
					checkAtom(t, kind, text, written(kind, text))
				} else {
					checkFormatAtom(t, atom(kind, text), "")
					checkParseAtom(t, written(kind, text), expectedAtom(written(kind, text)))
				}
			}
		}
	}
}

// The document gives the bytes of word text as a range with exceptions.
func TestWordBytesOfTheseTests(t *testing.T) {
	var all []byte
	for c := 33; c <= 126; c++ {
		if !slices.Contains([]byte{'{', '}', '^', '&', '#', '>'}, byte(c)) {
			all = append(all, byte(c))
		}
	}
	if wordBytes != string(all) {
		t.Errorf("wordBytes = %q; want %q", wordBytes, all)
	}
}

func TestBytesThatWordTextMustNotHave(t *testing.T) {
	for _, bad := range []string{"{", "}", "^", "&", "#", ">", " ", "\x00", "\x1f", "\x7f", "\x80", "\xff", "\t", "\n", "\u00e9", "\u2019", "\ufffd"} {
		for _, kind := range textKinds {
			for _, text := range []string{bad + "ab", "a" + bad + "b", "ab" + bad, bad + "ab" + bad, bad + bad} {
				checkFormatAtom(t, atom(kind, text), "")
			}
			checkParseAtom(t, written(kind, "a"+bad+"b"), noAtom)
			checkParseAtom(t, written(kind, "ab")+bad, expectedAtom(written(kind, "ab")+bad))
			checkParseAtom(t, bad+written(kind, "ab"), expectedAtom(bad+written(kind, "ab")))
		}
	}
}

func TestLengthsOfWordText(t *testing.T) {
	for _, b := range []string{"a", "!", "~", ".", "-"} {
		for _, kind := range textKinds {
			for n := 1; n <= 20; n++ {
				checkAtom(t, kind, strings.Repeat(b, n), written(kind, strings.Repeat(b, n)))
			}
			for _, n := range []int{21, 22, 40, 256 + 20, 100000} {
				checkFormatAtom(t, atom(kind, strings.Repeat(b, n)), "")
				checkParseAtom(t, written(kind, strings.Repeat(b, n)), noAtom)
			}
			checkFormatAtom(t, atom(kind, ""), "")
		}
	}
}

func TestEmptyTextInsideBraces(t *testing.T) {
	for _, notation := range []string{
		"", "{}", "{^}", "{^^}", "{&}", "{^^^}", "{^^^^}", "{&&}", "{&^}", "{^&}", "{^&^}", "{&^^}",
		"{ }", "{^ }", "{ ^}", "{^ ^}", "{& }", "{{}}", "{^{}}", "{{}^}", "{#}", "{^#}", "{^>}", "{>^}", "{&>}",
	} {
		checkParseAtom(t, notation, noAtom)
	}
}

func TestUnclosedAndUnopenedBraces(t *testing.T) {
	for _, a := range []impl.Atom{
		atom(impl.AtomSuffix, "ing"), atom(impl.AtomPrefix, "un"), atom(impl.AtomInfix, "-"), atom(impl.AtomGlue, "a"),
		atom(impl.AtomStop, "."), atom(impl.AtomPause, ","), atom(impl.AtomCapNext, ""), atom(impl.AtomLowerNext, ""), atom(impl.AtomCapLast, ""),
	} {
		whole := written(a.Kind, a.Text)
		inside := whole[1 : len(whole)-1]
		for _, notation := range []string{
			"{" + inside, inside + "}", "}" + inside + "{", "{" + inside + "{", "{{" + inside + "}", "{" + inside + "}}",
			"{{" + inside + "}}", whole + whole, whole + "a", "a" + whole, whole + " ", " " + whole, "{ " + inside + "}",
			"{" + inside + " }", whole + "\n", whole + "\x00",
		} {
			checkParseAtom(t, notation, noAtom)
		}
	}
	for _, notation := range []string{"{", "}", "}{", "{{", "}}", "{^", "^}", "{&", "{.", "{-|", "{>", "{*-|", "^", "&", ">"} {
		checkParseAtom(t, notation, noAtom)
	}
}

func TestOtherNotationsOfNoAtom(t *testing.T) {
	for _, notation := range []string{
		"{a}", "{ing}", "{-}", "{|}", "{*}", "{<}", "{..}", "{.!}", "{.,}", "{,,}", "{...}", "{|-}", "{-||}", "{--|}", "{>>}",
		"{>a}", "{a>}", "{-|a}", "{a-|}", "{*-|a}", "{**-|}", "{-|*}", "{*|-}", "{* -|}", "{-|}{>}",
		"{&a^}", "{^&a}", "{&^a}", "{&&a}", "{a&}", "{^a&}", "{^^a}", "{a^^}", "{^^a^^}", "{^a^^}", "{^^a^}", "{a^b}", "{^a^b}",
		"^a", "a^", "&a", "a&", "{^a b}", "a b", "a ", " a", " ", "a{^b}", "{^b}a", "a#", "#", "a>b", "{^ing} ", "{^ing\u00a0}",
	} {
		checkParseAtom(t, notation, noAtom)
	}
}

func TestKindsThatDoNotExist(t *testing.T) {
	for _, kind := range []int{0, 11, -1, -2, -10, 12, 100, 256 + 1, 1<<32 + 1, 1<<32 + 8, math.MaxInt, math.MinInt, math.MinInt + 1} {
		for _, text := range []string{"", "a", "cat", ".", ",", "-|", ">", "*-|", "{.}"} {
			checkFormatAtom(t, atom(kind, text), "")
		}
	}
	checkFormatAtom(t, noAtom, "")
}

func TestTextInAnAtomWhoseKindAsksForNone(t *testing.T) {
	for _, kind := range commandKinds {
		for c := range 256 {
			checkFormatAtom(t, atom(kind, string([]byte{byte(c)})), "")
		}
		for _, text := range []string{"a", "cat", ".", "-|", ">", "*-|", " ", "{-|}", "{>}", strings.Repeat("a", 20), strings.Repeat("a", 100000)} {
			checkFormatAtom(t, atom(kind, text), "")
		}
	}
}

func TestMarksOfStopsAndPauses(t *testing.T) {
	for c := range 256 {
		b := string([]byte{byte(c)})
		if !strings.Contains(".!?", b) {
			checkFormatAtom(t, atom(impl.AtomStop, b), "")
		}
		if !strings.Contains(",;:", b) {
			checkFormatAtom(t, atom(impl.AtomPause, b), "")
		}
	}
	for _, text := range []string{"", "..", ".!", "!?", ".!?", "...", ". ", " .", ",,", ",;", ";:", ",;:", ", ", " ,", ".,", "{.}", "{,}", "^", "a", "\u2026", strings.Repeat(".", 100000)} {
		checkFormatAtom(t, atom(impl.AtomStop, text), "")
		checkFormatAtom(t, atom(impl.AtomPause, text), "")
	}
}

func checkAllNotationsOfAtoms(t *testing.T, notations []string) {
	t.Helper()
	for _, notation := range notations {
		want := expectedAtom(notation)
		checkParseAtom(t, notation, want)
		if want != noAtom {
			checkFormatAtom(t, want, notation)
		}
	}
}

// Every string of a few characters at which the kinds go apart.
func TestAllShortNotationsOfAtoms(t *testing.T) {
	checkAllNotationsOfAtoms(t, stringsOver("{}^&>.a", 6))
	checkAllNotationsOfAtoms(t, stringsOver("{}*-|>", 6))
	checkAllNotationsOfAtoms(t, stringsOver("{}^a", 8))
	var bytes []byte
	for c := range 256 {
		bytes = append(bytes, byte(c))
	}
	checkAllNotationsOfAtoms(t, stringsOver(string(bytes), 2))
	for _, b := range stringsOver(string(bytes), 1) {
		checkAllNotationsOfAtoms(t, []string{"{" + b + "}", "{^" + b + "}", "{" + b + "^}", "{^" + b + "^}", "{&" + b + "}", "{-" + b + "}", "{*-" + b + "}"})
	}
}

// An atom is valid just if its notation is read as this atom.
func TestAllShortTextsOfAtoms(t *testing.T) {
	for _, text := range stringsOver("{}^&>.,-|*a# ", 3) {
		for kind := -1; kind <= 12; kind++ {
			want := written(kind, text)
			if expectedAtom(want) != atom(kind, text) {
				want = ""
			}
			checkFormatAtom(t, atom(kind, text), want)
		}
	}
}

func TestTranslations(t *testing.T) {
	checkTranslation(t, "{un^} do {^ing}", atom(impl.AtomPrefix, "un"), word("do"), atom(impl.AtomSuffix, "ing"))
	checkTranslation(t, "cat", word("cat"))
	checkTranslation(t, "{.} {-|} cat", atom(impl.AtomStop, "."), atom(impl.AtomCapNext, ""), word("cat"))
	checkTranslation(t, "a {^b} {c^} {^d^} {&e} {.} {,} {-|} {>} {*-|}",
		word("a"), atom(impl.AtomSuffix, "b"), atom(impl.AtomPrefix, "c"), atom(impl.AtomInfix, "d"), atom(impl.AtomGlue, "e"),
		atom(impl.AtomStop, "."), atom(impl.AtomPause, ","), atom(impl.AtomCapNext, ""), atom(impl.AtomLowerNext, ""), atom(impl.AtomCapLast, ""))
	checkTranslation(t, ". , -| {,} , ;", word("."), word(","), word("-|"), atom(impl.AtomPause, ","), word(","), word(";"))
}

func TestTranslationsOfOneToTenAtoms(t *testing.T) {
	for _, a := range []impl.Atom{
		word("a"), word("."), atom(impl.AtomSuffix, "s"), atom(impl.AtomPrefix, "a"), atom(impl.AtomInfix, "-"), atom(impl.AtomGlue, "b"),
		atom(impl.AtomStop, "?"), atom(impl.AtomPause, ":"), atom(impl.AtomCapNext, ""), atom(impl.AtomLowerNext, ""), atom(impl.AtomCapLast, ""),
	} {
		for n := 1; n <= 10; n++ {
			l := slices.Repeat([]impl.Atom{a}, n)
			checkTranslation(t, notationsOf(l), l...)
		}
		for _, n := range []int{11, 12, 20, 30, 1 << 16} {
			l := slices.Repeat([]impl.Atom{a}, n)
			checkNoTranslation(t, l...)
			checkParseTranslation(t, notationsOf(l))
		}
	}
	checkTranslation(t, "a b c d e f g h i j", expectedAtoms("a b c d e f g h i j")...)
	checkParseTranslation(t, "a b c d e f g h i j k")
	checkParseTranslation(t, "a b c d e f g h i {-|} {>}")
}

func TestTheEmptyTranslation(t *testing.T) {
	checkNoTranslation(t)
	checkParseTranslation(t, "")
	checkFormatTranslation(t, []impl.Atom{}, "")
	if s, ok := impl.FormatTranslation(nil); s != "" || ok {
		t.Error("nil", s, ok)
	}
	if w, ok := impl.PlainWords(nil); len(w) != 0 || ok {
		t.Error("nil", w, ok)
	}
}

// wordsOfTotal returns n words that, with the spaces between them, have the given length.
func wordsOfTotal(n, total int) []impl.Atom {
	var l []impl.Atom
	letters := total - (n - 1)
	for rest := n; rest > 0; rest-- {
		share := letters / rest
		l = append(l, word(strings.Repeat("w", share)))
		letters -= share
	}
	return l
}

func TestTranslationsAtTheLimitOfBytes(t *testing.T) {
	for n := 3; n <= 10; n++ {
		for total := 40; total <= 60; total++ {
			l := wordsOfTotal(n, total)
			checkTranslation(t, notationsOf(l), l...)
		}
	}
	for n := 4; n <= 10; n++ {
		for _, total := range []int{61, 62, 70} {
			l := wordsOfTotal(n, total)
			checkNoTranslation(t, l...)
			checkParseTranslation(t, notationsOf(l))
		}
	}
	twenty := strings.Repeat("x", 20)
	checkTranslation(t, twenty+" "+twenty+" "+twenty[:18], word(twenty), word(twenty), word(twenty[:18]))
	for n := 19; n <= 20; n++ {
		checkNoTranslation(t, word(twenty), word(twenty), word(twenty[:n]))
		checkParseTranslation(t, twenty+" "+twenty+" "+twenty[:n])
	}
}

// The braces count as well: these texts alone would fit.
func TestTheLimitCountsTheWholeNotation(t *testing.T) {
	for n, kind := range []int{impl.AtomSuffix, impl.AtomPrefix, impl.AtomInfix, impl.AtomGlue} {
		braces := []int{3, 3, 4, 3}[n]
		a, b := atom(kind, strings.Repeat("y", 20)), atom(kind, strings.Repeat("z", 20))
		rest := 60 - 2*(20+braces+1)
		checkTranslation(t, notationsOf([]impl.Atom{a, b, word("abcdefghijkl"[:rest])}), a, b, word("abcdefghijkl"[:rest]))
		checkTranslation(t, notationsOf([]impl.Atom{word("abcdefghijkl"[:rest]), b, a}), word("abcdefghijkl"[:rest]), b, a)
		longer := []impl.Atom{a, word("abcdefghijklm"[:rest+1]), b}
		checkNoTranslation(t, longer...)
		checkParseTranslation(t, notationsOf(longer))
	}
	tenSigns := []impl.Atom{word("abcdefg")}
	for range 9 {
		tenSigns = append(tenSigns, atom(impl.AtomCapLast, ""))
	}
	checkFormatTranslation(t, tenSigns, "")
	tenSigns[0] = word("abcdef")
	checkFormatTranslation(t, tenSigns, "abcdef"+strings.Repeat(" {*-|}", 9))
	checkParseTranslation(t, "abcdef"+strings.Repeat(" {*-|}", 9), tenSigns...)
	checkParseTranslation(t, "abcdefg"+strings.Repeat(" {*-|}", 9))
}

func TestAnInvalidAtomInATranslation(t *testing.T) {
	long := strings.Repeat("a", 21)
	for _, bad := range []impl.Atom{
		noAtom, word(""), word(long), word("a b"), word("{.}"), word("a^"), word("#"), atom(0, "a"), atom(11, "a"), atom(-1, ""), atom(11, ""),
		atom(impl.AtomSuffix, ""), atom(impl.AtomPrefix, ""), atom(impl.AtomInfix, ""), atom(impl.AtomGlue, ""), atom(impl.AtomGlue, long),
		atom(impl.AtomStop, ","), atom(impl.AtomStop, ""), atom(impl.AtomPause, "."), atom(impl.AtomPause, ""),
		atom(impl.AtomCapNext, "-|"), atom(impl.AtomLowerNext, ">"), atom(impl.AtomCapLast, "a"), atom(math.MaxInt, "a"),
	} {
		checkNoTranslation(t, bad)
		for n := 2; n <= 10; n++ {
			for i := range n {
				l := slices.Repeat([]impl.Atom{word("a")}, n)
				l[i] = bad
				checkNoTranslation(t, l...)
			}
		}
	}
}

func TestANotationOfNoAtomInATranslation(t *testing.T) {
	for _, bad := range []string{
		"{}", "{^}", "{^^}", "{&}", "{", "}", "{a}", "{^a", "a^}", "#", "a#b", "a>b", "{.", "{-|", ">", "\t", "\n", "a\tb", "a\nb", "\u00a0", "\x7f", "\xff", strings.Repeat("a", 21),
	} {
		for _, text := range []string{bad, bad + " a", "a " + bad, "a " + bad + " b", "{^a} {.} " + bad, bad + " " + bad, "a b c d e f g h i " + bad} {
			checkParseTranslation(t, text)
		}
	}
	checkParseTranslation(t, "{^a b}")
	checkParseTranslation(t, "{^ ing}")
	checkParseTranslation(t, "{. }")
}

func TestSpacesBetweenAtoms(t *testing.T) {
	for _, text := range []string{
		" ", "  ", "   ", " a", "a ", " a ", "a  b", "  a", "a  ", "a b ", " a b", "a   b", "a  b c", "a b  c", "{.} ", " {.}", "{.}  {.}", "{.}{.}", "a{^b}",
		"a\tb", "a\nb", "a\rb", "a\u00a0b", "a \tb", "a b\n", "a\x00b", "a, b ", "a b c d e f g h i j ", " a b c d e f g h i j", "a b c d e  f g h i j",
		strings.Repeat(" ", 60), strings.Repeat("a ", 9), strings.Repeat(" a", 9),
	} {
		checkParseTranslation(t, text)
	}
}

func TestLongTranslationsOfNothing(t *testing.T) {
	for _, part := range []string{"a ", " ", "a", "{", "}", "{^", "{.} ", "{.}", "\x00", "\xff", "{^a^} ", "a  "} {
		long := strings.Repeat(part, 100000)
		for _, text := range []string{long, long + "a", "a " + long, "{" + long + "}", "{^" + long + "^}", "{&" + long, long + "^}"} {
			checkParseTranslation(t, text)
			checkParseAtom(t, text, noAtom)
			checkNoTranslation(t, word(text))
			checkNoTranslation(t, word("a"), atom(impl.AtomInfix, text), word("a"))
		}
	}
}

func TestAllShortTranslations(t *testing.T) {
	for _, text := range append(stringsOver("a {^}", 7), stringsOver("a. {}", 6)...) {
		want := expectedAtoms(text)
		checkParseTranslation(t, text, want...)
		if len(want) > 0 {
			checkTranslation(t, text, want...)
		}
	}
}

func randomAtom(r *rand.Rand) impl.Atom {
	switch kind := 1 + r.Intn(10); kind {
	case impl.AtomStop:
		return atom(kind, string(".!?"[r.Intn(3)]))
	case impl.AtomPause:
		return atom(kind, string(",;:"[r.Intn(3)]))
	case impl.AtomCapNext, impl.AtomLowerNext, impl.AtomCapLast:
		return atom(kind, "")
	default:
		text := ""
		for range 1 + r.Intn(1+r.Intn(20)) {
			text += string(wordBytes[r.Intn(len(wordBytes))])
		}
		return atom(kind, text)
	}
}

func TestRandomTranslationsRoundTrip(t *testing.T) {
	r := rand.New(rand.NewSource(5))
	tooLong := 0
	for range 20000 {
		var l []impl.Atom
		for range 1 + r.Intn(11) {
			l = append(l, randomAtom(r))
			checkAtom(t, l[len(l)-1].Kind, l[len(l)-1].Text, notationsOf(l[len(l)-1:]))
		}
		text := notationsOf(l)
		if len(text) <= 60 && len(l) <= 10 {
			checkTranslation(t, text, l...)
			continue
		}
		tooLong++
		checkNoTranslation(t, l...)
		checkParseTranslation(t, text)
	}
	if tooLong < 2000 || tooLong > 18000 {
		t.Error("the lists do not try both sides of the limits", tooLong)
	}
}

// What is changed is mostly no translation any more, or another one.
func TestTranslationsWithOneChangedByte(t *testing.T) {
	for _, text := range []string{"{un^} do {^ing}", "a {^b} {c^} {^d^} {&e} {.} {,} {-|} {>} {*-|}", "{.} , cat {*-|}"} {
		for i := range len(text) {
			for c := range 256 {
				changed := text[:i] + string([]byte{byte(c)}) + text[i+1:]
				checkParseTranslation(t, changed, expectedAtoms(changed)...)
			}
			shorter := text[:i] + text[i+1:]
			checkParseTranslation(t, shorter, expectedAtoms(shorter)...)
		}
	}
}

func TestPlainWords(t *testing.T) {
	checkPlainWords(t, expectedAtoms("{un^} do {^ing}"), []string{"do"}, true)
	checkPlainWords(t, expectedAtoms("the cat {,} the {-|} dog {.}"), []string{"the", "cat", "the", "dog"}, true)
	checkPlainWords(t, expectedAtoms("b a c a"), []string{"b", "a", "c", "a"}, true)
	checkPlainWords(t, expectedAtoms(". -| {.}"), []string{".", "-|"}, true)
	checkPlainWords(t, expectedAtoms("{^a} {b^} {^c^} {&d} {.} {,} {-|} {>} {*-|}"), nil, true)
	checkPlainWords(t, expectedAtoms("{^a} {b^} {^c^} {&d} {.} {,} {-|} {>} {*-|} e"), []string{"e"}, true)
	checkPlainWords(t, expectedAtoms("a b c d e f g h i j"), strings.Split("abcdefghij", ""), true)
	checkPlainWords(t, []impl.Atom{word("cat"), noAtom}, nil, false)
	checkPlainWords(t, []impl.Atom{noAtom, word("cat")}, nil, false)
	checkPlainWords(t, []impl.Atom{atom(impl.AtomStop, "a")}, nil, false)
	checkPlainWords(t, wordsOfTotal(4, 61), nil, false)
	checkPlainWords(t, slices.Repeat([]impl.Atom{word("a")}, 11), nil, false)
}

func TestAtomsBeyondTheLengthAreNotRead(t *testing.T) {
	all := expectedAtoms("a b {.} c")
	all[2] = noAtom
	checkTranslation(t, "a b", all[:2]...)
	if s, ok := impl.FormatTranslation(all[:2]); s != "a b" || !ok {
		t.Error("read on", s, ok)
	}
	if w, ok := impl.PlainWords(all[3:]); !slices.Equal(w, []string{"c"}) || !ok {
		t.Error("read before", w, ok)
	}
}

func TestParsedAtomsAndPlainWordsAreNewMemory(t *testing.T) {
	text := "a {^b} {.} c"
	first, _ := impl.ParseTranslation(text)
	second, _ := impl.ParseTranslation(text)
	words, _ := impl.PlainWords(second)
	again, _ := impl.PlainWords(second)
	first[0] = word("changed")
	_ = append(first[:1], noAtom, noAtom, noAtom, noAtom)
	words[0] = "changed"
	_ = append(words[:1], "changed", "changed")
	if got := fmt.Sprint(second, again); got != "[{1 a} {2 b} {6 .} {1 c}] [a c]" {
		t.Error("shared", got)
	}
	checkTranslation(t, text, second...)
}
