package tests

import (
	"fmt"
	"math"
	"math/rand"
	"slices"
	"strings"
	"testing"

	"loop.example/g00882/impl"
)

// Promise 11: longest match covers all strokes, and the optimal segmentation leaves no more
// strokes untranslated. Promise 26, for chapter 11: every function returns for all arguments and
// modifies none of them.

var noPiece impl.Piece

func piece(from, count int, text string) impl.Piece {
	return impl.Piece{From: from, Count: count, Text: text}
}

func pieces(l ...impl.Piece) []impl.Piece { return l }

// digits reads one stroke from each digit.
func digits(text string) []int {
	var strokes []int
	for _, digit := range []byte(text) {
		strokes = append(strokes, int(digit-'0'))
	}
	return strokes
}

// ofDigits gives each of the outlines, which are written in digits, these digits as its Text.
func ofDigits(outlines string) impl.Dictionary {
	var d impl.Dictionary
	for _, o := range strings.Fields(outlines) {
		d = with(d, entryOf(o, digits(o)...))
	}
	return d
}

// inTurn reads pieces written as the digits that they cover, which are also their Texts, unless
// a question mark says that the piece is untranslated. Each piece starts behind the last one.
func inTurn(text string) []impl.Piece {
	var l []impl.Piece
	from := 0
	for _, part := range strings.Fields(text) {
		covered := strings.TrimSuffix(part, "?")
		p := piece(from, len(covered), covered)
		if covered != part {
			p.Text = ""
		}
		l = append(l, p)
		from += p.Count
	}
	return l
}

// untranslated returns the segmentation of n strokes that translates nothing.
func untranslated(n int) []impl.Piece { return inTurn(strings.Repeat("0? ", n)) }

func fits(o, strokes []int, from int) bool {
	return from+len(o) <= len(strokes) && slices.Equal(strokes[from:from+len(o)], o)
}

// expectedAt lists all pieces that a segmentation can have at an index.
func expectedAt(d impl.Dictionary, strokes []int, from int) []impl.Piece {
	l := pieces(piece(from, 1, ""))
	for _, e := range d.Entries {
		if fits(e.Outline, strokes, from) {
			l = append(l, piece(from, len(e.Outline), e.Text))
		}
	}
	return l
}

func expectedMatch(d impl.Dictionary, strokes []int, from int) impl.Piece {
	longest := noPiece
	for _, p := range expectedAt(d, strokes, from) {
		if p.Count > longest.Count || p.Text != "" && p.Count == longest.Count {
			longest = p
		}
	}
	return longest
}

func expectedSegment(d impl.Dictionary, strokes []int) []impl.Piece {
	var l []impl.Piece
	for covered := 0; covered < len(strokes); {
		l = append(l, expectedMatch(d, strokes, covered))
		covered += l[len(l)-1].Count
	}
	return l
}

// expectedIsSegmentation writes down the index of every stroke that is covered.
func expectedIsSegmentation(d impl.Dictionary, strokes []int, l []impl.Piece) bool {
	var covered []int
	for _, p := range l {
		if p.From < 0 || p.From >= len(strokes) || !slices.Contains(expectedAt(d, strokes, p.From), p) {
			return false
		}
		for i := range p.Count {
			covered = append(covered, p.From+i)
		}
	}
	return slices.Equal(covered, keysUpTo(len(strokes)))
}

// A cost is the number of untranslated pieces and that of all pieces.
type cost [2]int

func costOf(l []impl.Piece) cost {
	c := cost{0, len(l)}
	for _, p := range l {
		if p.Text == "" {
			c[0]++
		}
	}
	return c
}

func (c cost) plus(other cost) cost { return cost{c[0] + other[0], c[1] + other[1]} }

func (c cost) minus(other cost) cost { return cost{c[0] - other[0], c[1] - other[1]} }

// costsFrom returns, for each index, the costs of all segmentations of the strokes from there.
func costsFrom(d impl.Dictionary, strokes []int) []map[cost]bool {
	costs := make([]map[cost]bool, len(strokes)+1)
	costs[len(strokes)] = map[cost]bool{{}: true}
	for from := len(strokes) - 1; from >= 0; from-- {
		costs[from] = map[cost]bool{}
		for _, p := range expectedAt(d, strokes, from) {
			for rest := range costs[from+p.Count] {
				costs[from][costOf(pieces(p)).plus(rest)] = true
			}
		}
	}
	return costs
}

// expectedFewest takes the least cost that there is and spends it from the beginning, each time
// on the largest Count from which the end can still be reached at exactly this cost.
func expectedFewest(d impl.Dictionary, strokes []int) []impl.Piece {
	costs := costsFrom(d, strokes)
	least := cost{math.MaxInt, 0}
	for c := range costs[0] {
		if slices.Compare(c[:], least[:]) < 0 {
			least = c
		}
	}
	var l []impl.Piece
	for covered := 0; covered < len(strokes); {
		best := noPiece
		for _, p := range expectedAt(d, strokes, covered) {
			rest := least.minus(costOf(append(slices.Clone(l), p)))
			if p.Count > best.Count && costs[covered+p.Count][rest] {
				best = p
			}
		}
		l = append(l, best)
		covered += best.Count
	}
	return l
}

// allSegmentations lists all segmentations of the strokes from an index.
func allSegmentations(d impl.Dictionary, strokes []int, from int) [][]impl.Piece {
	if from == len(strokes) {
		return [][]impl.Piece{nil}
	}
	var all [][]impl.Piece
	for _, p := range expectedAt(d, strokes, from) {
		for _, rest := range allSegmentations(d, strokes, from+p.Count) {
			all = append(all, slices.Concat(pieces(p), rest))
		}
	}
	return all
}

// rank is the less, the better a segmentation is.
func rank(l []impl.Piece) []int {
	c := costOf(l)
	ranks := c[:]
	for _, p := range l {
		ranks = append(ranks, -p.Count)
	}
	return ranks
}

// shownPieces spares the reader most of the longest lists and texts.
func shownPieces(l []impl.Piece) string {
	text := fmt.Sprint(len(l), " pieces:")
	for _, p := range l[:min(len(l), 20)] {
		text += fmt.Sprintf(" %d+%d %.20q", p.From, p.Count, p.Text)
	}
	return text
}

func withStrokes(t *testing.T, name string, d impl.Dictionary, strokes []int, f func(d impl.Dictionary, strokes []int)) {
	t.Helper()
	withDictionary(t, name, d, func(d impl.Dictionary) {
		l := lend(strokes)
		f(d, l.outline)
		checkUnchanged(t, name, l)
	})
}

// withPieces lends l with room behind its last piece, where pieces stand that would go on.
func withPieces(t *testing.T, name string, l []impl.Piece, f func(l []impl.Piece)) {
	t.Helper()
	covered := 0
	for _, p := range l {
		covered = p.From + p.Count
	}
	all := append(slices.Clone(l), piece(covered, 1, ""), piece(covered+1, 1, ""), piece(-7, -7, ""), noPiece)
	before := slices.Clone(all)
	f(all[:len(l)])
	if !slices.Equal(all, before) {
		t.Fatalf("%s changed %s to %s", name, shownPieces(before), shownPieces(all))
	}
}

// checkMatch expects a failure if want is the zero Piece.
func checkMatch(t *testing.T, d impl.Dictionary, strokes []int, from int, want impl.Piece) {
	t.Helper()
	withStrokes(t, "MatchAt", d, strokes, func(d impl.Dictionary, strokes []int) {
		if got, ok := impl.MatchAt(d, strokes, from); got != want || ok != (want != noPiece) {
			t.Errorf("MatchAt(%s, %s, %d) = %v, %v; want %v", shownDictionary(d), shown(strokes), from, got, ok, want)
		}
	})
}

func overwritePieces(l []impl.Piece) {
	for i := range cap(l) {
		l[:cap(l)][i] = piece(-100, -100, "overwritten")
	}
}

// checkPieces runs Segment or FewestPieces, whose results must not share memory.
func checkPieces(t *testing.T, name string, segment func(impl.Dictionary, []int) ([]impl.Piece, bool), d impl.Dictionary, strokes []int, want []impl.Piece, wantOK bool) {
	t.Helper()
	withStrokes(t, name, d, strokes, func(d impl.Dictionary, strokes []int) {
		got, ok := segment(d, strokes)
		again, _ := segment(d, strokes)
		if !slices.Equal(got, want) || ok != wantOK {
			t.Errorf("%s(%s, %s) = %s, %v; want %s, %v", name, shownDictionary(d), shown(strokes), shownPieces(got), ok, shownPieces(want), wantOK)
		}
		overwritePieces(got)
		if !slices.Equal(again, want) {
			t.Errorf("%s(%s, %s) returned the same memory twice", name, shownDictionary(d), shown(strokes))
		}
	})
}

func checkSegment(t *testing.T, d impl.Dictionary, strokes []int, want []impl.Piece, wantOK bool) {
	t.Helper()
	checkPieces(t, "Segment", impl.Segment, d, strokes, want, wantOK)
}

func checkFewest(t *testing.T, d impl.Dictionary, strokes []int, want []impl.Piece, wantOK bool) {
	t.Helper()
	checkPieces(t, "FewestPieces", impl.FewestPieces, d, strokes, want, wantOK)
}

func checkIsSegmentation(t *testing.T, d impl.Dictionary, strokes []int, l []impl.Piece, want, wantOK bool) {
	t.Helper()
	withStrokes(t, "IsSegmentation", d, strokes, func(d impl.Dictionary, strokes []int) {
		withPieces(t, "IsSegmentation", l, func(l []impl.Piece) {
			if got, ok := impl.IsSegmentation(d, strokes, l); got != want || ok != wantOK {
				t.Errorf("IsSegmentation(%s, %s, %s) = %v, %v; want %v, %v", shownDictionary(d), shown(strokes), shownPieces(l), got, ok, want, wantOK)
			}
		})
	})
}

func checkUntranslated(t *testing.T, l []impl.Piece, want int) {
	t.Helper()
	withPieces(t, "CountUntranslated", l, func(l []impl.Piece) {
		if got := impl.CountUntranslated(l); got != want {
			t.Errorf("CountUntranslated(%s) = %d; want %d", shownPieces(l), got, want)
		}
	})
}

// checkNoMatch asks for indexes outside the strokes.
func checkNoMatch(t *testing.T, d impl.Dictionary, strokes []int) {
	t.Helper()
	n := len(strokes)
	for _, from := range []int{-1, -2, -n, -n - 1, n, n + 1, 59 + n, 60 + n, n + 1<<32, math.MaxInt, math.MinInt, math.MinInt + n} {
		if from < 0 || from >= n {
			checkMatch(t, d, strokes, from, noPiece)
		}
	}
}

// checkMatching asks all functions for a valid dictionary and valid strokes.
func checkMatching(t *testing.T, d impl.Dictionary, strokes []int) {
	t.Helper()
	checkNoMatch(t, d, strokes)
	for from := range strokes {
		checkMatch(t, d, strokes, from, expectedMatch(d, strokes, from))
	}
	longest, fewest := expectedSegment(d, strokes), expectedFewest(d, strokes)
	checkSegment(t, d, strokes, longest, true)
	checkFewest(t, d, strokes, fewest, true)
	for _, l := range [][]impl.Piece{longest, fewest, untranslated(len(strokes))} {
		checkIsSegmentation(t, d, strokes, l, true, true)
		checkUntranslated(t, l, costOf(l)[0])
	}
}

// checkNotMatching expects that d or strokes is invalid. No list of pieces is then judged.
func checkNotMatching(t *testing.T, d impl.Dictionary, strokes []int) {
	t.Helper()
	checkNoMatch(t, d, strokes)
	for _, from := range []int{0, 1, len(strokes) / 2, len(strokes) - 1} {
		checkMatch(t, d, strokes, from, noPiece)
	}
	checkSegment(t, d, strokes, nil, false)
	checkFewest(t, d, strokes, nil, false)
	for _, l := range [][]impl.Piece{nil, {}, {noPiece}, untranslated(len(strokes)), expectedSegment(d, strokes)} {
		checkIsSegmentation(t, d, strokes, l, false, false)
	}
}

// checkCuts takes outlines and strokes in digits, see ofDigits, and segmentations as inTurn does.
func checkCuts(t *testing.T, outlines, strokes, longest, fewest string) {
	t.Helper()
	d := ofDigits(outlines)
	checkMatching(t, d, digits(strokes))
	checkSegment(t, d, digits(strokes), inTurn(longest), true)
	checkFewest(t, d, digits(strokes), inTurn(fewest), true)
}

func TestConstantOfChapter11(t *testing.T) {
	if impl.MaxStrokes != 60 {
		t.Error("strokes", impl.MaxStrokes)
	}
}

func TestLongestMatchOfNotations(t *testing.T) {
	d := dict("-G", "{^ing}", "KAT", "cat", "KAT/-S", "felines", "-S", "{^s}")
	strokes := strokesOf("KAT/-S/-S/-Z/KAT")
	l := pieces(piece(0, 2, "felines"), piece(2, 1, "{^s}"), piece(3, 1, ""), piece(4, 1, "cat"))
	checkSegment(t, d, strokes, l, true)
	checkFewest(t, d, strokes, l, true)
	for _, p := range l {
		checkMatch(t, d, strokes, p.From, p)
	}
	checkMatch(t, d, strokes, 1, piece(1, 1, "{^s}"))
	checkIsSegmentation(t, d, strokes, l, true, true)
	checkUntranslated(t, l, 1)
	checkMatching(t, d, strokes)
}

func TestNoStrokes(t *testing.T) {
	for _, d := range []impl.Dictionary{noDictionary, numbered(40), stairs(6), fullest()} {
		for _, strokes := range [][]int{nil, {}, make([]int, 0, 8), digits("123456")[:0]} {
			checkMatching(t, d, strokes)
			checkSegment(t, d, strokes, nil, true)
			checkFewest(t, d, strokes, nil, true)
			checkIsSegmentation(t, d, strokes, nil, true, true)
			checkIsSegmentation(t, d, strokes, pieces(), true, true)
			for _, p := range pieces(noPiece, piece(0, 1, ""), piece(0, 1, "p0"), piece(0, 2, "p1"), piece(-1, 1, ""), piece(1, 1, ""), piece(0, -1, "")) {
				checkIsSegmentation(t, d, strokes, pieces(p), false, true)
				checkIsSegmentation(t, d, strokes, pieces(p, p), false, true)
			}
		}
	}
}

func TestOneStroke(t *testing.T) {
	checkCuts(t, "1", "1", "1", "1")
	checkCuts(t, "1", "2", "2?", "2?")
	checkCuts(t, "12", "1", "1?", "1?")
	checkCuts(t, "12 21 22", "2", "2?", "2?")
	checkCuts(t, "1 12 123", "1", "1", "1")
	for _, s := range []int{1, 2, 1024, 1 << 22, largestStroke - 1, largestStroke} {
		checkMatching(t, noDictionary, []int{s})
		checkMatching(t, dictionary(entryOf("a", s)), []int{s})
		checkMatching(t, dictionary(entryOf("a", s, s)), []int{s})
		checkMatch(t, dictionary(entryOf("a", s)), []int{s}, 0, piece(0, 1, "a"))
	}
}

// The limit is that of the strokes, not that of the pieces or of the strokes left untranslated.
func TestStrokesAtTheLimit(t *testing.T) {
	for _, d := range []impl.Dictionary{noDictionary, ofDigits("2"), ofDigits("22"), ofDigits("222222"), ofDigits("2 22 222 2222 22222 222222"), numbered(40), fullest()} {
		for _, n := range []int{58, 59, 60} {
			checkMatching(t, d, slices.Repeat([]int{2}, n))
		}
		for _, n := range []int{61, 62, 66, 120, 300, 1 << 16} {
			checkNotMatching(t, d, slices.Repeat([]int{2}, n))
		}
	}
	all := slices.Repeat([]int{2}, 60)
	checkSegment(t, ofDigits("222222"), all, inTurn(strings.Repeat("222222 ", 10)), true)
	checkSegment(t, ofDigits("2"), all, inTurn(strings.Repeat("2 ", 60)), true)
	checkSegment(t, noDictionary, all, untranslated(60), true)
	checkMatch(t, ofDigits("2"), all, 59, piece(59, 1, "2"))
	checkMatch(t, ofDigits("2"), all, 60, noPiece)
	checkMatch(t, ofDigits("222222"), all, 54, piece(54, 6, "222222"))
	checkMatch(t, ofDigits("222222"), all, 55, piece(55, 1, ""))
}

// There are so many segmentations that they cannot be tried one after the other.
func TestManySegmentations(t *testing.T) {
	all := slices.Repeat([]int{2}, 60)
	d := ofDigits("2 22 222 2222 22222 222222")
	checkFewest(t, d, all, inTurn(strings.Repeat("222222 ", 10)), true)
	checkFewest(t, d, all[:59], inTurn(strings.Repeat("222222 ", 9)+"22222"), true)
	checkFewest(t, d, all[:55], inTurn(strings.Repeat("222222 ", 9)+"2"), true)
	d = ofDigits("22222 222222")
	checkFewest(t, d, all[:59], inTurn(strings.Repeat("222222 ", 9)+"22222"), true)
	checkFewest(t, d, all[:55], inTurn(strings.Repeat("222222 ", 5)+strings.Repeat("22222 ", 5)), true)
	checkSegment(t, d, all[:55], inTurn(strings.Repeat("222222 ", 9)+"2?"), true)
	d = ofDigits("222 22222")
	checkFewest(t, d, all[:59], inTurn(strings.Repeat("22222 ", 10)+"222 222 222"), true)
	checkSegment(t, d, all[:59], inTurn(strings.Repeat("22222 ", 11)+"222 2?"), true)
}

func TestTheEmptyDictionaryMatched(t *testing.T) {
	checkCuts(t, "", "123", "1? 2? 3?", "1? 2? 3?")
	checkCuts(t, "", "11", "1? 1?", "1? 1?")
	for n := range 61 {
		strokes := slices.Repeat([]int{1 << 22}, n)
		checkMatching(t, noDictionary, strokes)
		checkSegment(t, noDictionary, strokes, untranslated(n), true)
		checkFewest(t, noDictionary, strokes, untranslated(n), true)
	}
	checkIsSegmentation(t, noDictionary, digits("12"), pieces(piece(0, 2, "")), false, true)
	checkIsSegmentation(t, noDictionary, digits("12"), inTurn("1? 2"), false, true)
	checkIsSegmentation(t, noDictionary, digits("12"), inTurn("1? 2? 3?"), false, true)
	checkIsSegmentation(t, noDictionary, digits("12"), inTurn("1?"), false, true)
}

// A longer match hides what would leave fewer strokes untranslated, or make fewer pieces.
func TestOutlinesThatOverlap(t *testing.T) {
	checkCuts(t, "1 12 23", "123", "12 3?", "1 23")
	checkCuts(t, "1 12 123 234 34", "1234", "123 4?", "12 34")
	checkCuts(t, "1 2 34 123", "1234", "123 4?", "1 2 34")
	checkCuts(t, "12 1 2345", "12345", "12 3? 4? 5?", "1 2345")
	checkCuts(t, "11 111", "1111", "111 1?", "11 11")
	checkCuts(t, "1 2 123456 34567", "1234567", "123456 7?", "1 2 34567")
	checkCuts(t, "12 23456", "123456", "12 3? 4? 5? 6?", "1? 23456")
	checkCuts(t, "12 21 1", "12121", "12 12 1", "12 12 1")
	checkCuts(t, "12 212", "1212", "12 12", "12 12")
	checkCuts(t, "121 21", "12121", "121 21", "121 21")
	checkCuts(t, "121 12 212", "91212", "9? 121 2?", "9? 12 12")
	checkCuts(t, "1 12 23 34 45 56", "123456", "12 34 56", "12 34 56")
	checkCuts(t, "1 12 23 34 45 56 67", "1234567", "12 34 56 7?", "1 23 45 67")
}

func TestAsManyUntranslatedButFewerPieces(t *testing.T) {
	checkCuts(t, "1 12 3 4 234", "1234", "12 3 4", "1 234")
	checkCuts(t, "12 34 1 23456 56", "123456", "12 34 56", "1 23456")
	checkCuts(t, "12 3 234", "1234", "12 3 4?", "1? 234")
	checkCuts(t, "111 11 1", "11111111", "111 111 11", "111 111 11")
	checkCuts(t, "1 2 3 12 123 45 2345 34", "12345", "123 45", "123 45")
}

// More pieces are better if fewer of them are untranslated.
func TestFewerUntranslatedButMorePieces(t *testing.T) {
	checkCuts(t, "12 3 4 234", "1234", "12 3 4", "12 3 4")
	checkCuts(t, "1 2 3 4 123", "1234", "123 4", "123 4")
	checkCuts(t, "1 2 3 45 1234", "12345", "1234 5?", "1 2 3 45")
	checkCuts(t, "1 2 3 4 56 12345", "123456", "12345 6?", "1 2 3 4 56")
}

func TestCountsAloneDiffer(t *testing.T) {
	checkCuts(t, "1 12 3 23", "123", "12 3", "12 3")
	checkCuts(t, "12 23", "123", "12 3?", "12 3?")
	checkCuts(t, "12 23 34 45", "12345", "12 34 5?", "12 34 5?")
	checkCuts(t, "1 2 3 4 23 34", "1234", "1 23 4", "1 23 4")
	checkCuts(t, "1 11 111", "1111", "111 1", "111 1")
	checkCuts(t, "1 12 123 34 234 1234", "12345", "1234 5?", "1234 5?")
	checkCuts(t, "123 12 1 345 45 2345", "12345", "123 45", "123 45")
	checkCuts(t, "1 12 345 2345 1234", "12345", "1234 5?", "12 345")
}

func TestLongestOutlinesMatched(t *testing.T) {
	checkCuts(t, "123456", "123456", "123456", "123456")
	checkCuts(t, "123456", "7123456", "7? 123456", "7? 123456")
	checkCuts(t, "123456", "1234567", "123456 7?", "123456 7?")
	checkCuts(t, "123456", "123456123456", "123456 123456", "123456 123456")
	checkCuts(t, "123456", "12345", "1? 2? 3? 4? 5?", "1? 2? 3? 4? 5?")
	checkCuts(t, "123456 12", "712345", "7? 12 3? 4? 5?", "7? 12 3? 4? 5?")
	checkCuts(t, "123456 12345", "71234512345", "7? 12345 12345", "7? 12345 12345")
	checkCuts(t, "123456", "123457", "1? 2? 3? 4? 5? 7?", "1? 2? 3? 4? 5? 7?")
	checkCuts(t, "111111", "1111111", "111111 1?", "111111 1?")
	checkCuts(t, "1 12 123 1234 12345 123456", "1234561234512341231212345", "123456 12345 1234 123 12 12345", "123456 12345 1234 123 12 12345")
	d := stairs(6)
	for n := range 7 {
		strokes := append(slices.Repeat([]int{9}, 60-n), digits("123456")[:n]...)
		checkMatching(t, d, strokes)
		checkMatching(t, ofDigits("123456"), strokes)
		if n > 0 {
			checkMatch(t, d, strokes, 60-n, piece(60-n, n, fmt.Sprint("p", n-1)))
		}
	}
}

// An outline that goes on behind the last stroke does not occur, even if its strokes stand there.
func TestStrokesBehindTheLastAreNotRead(t *testing.T) {
	all := digits("123456123456")
	for n := range all {
		for _, d := range []impl.Dictionary{stairs(6), ofDigits("123456"), ofDigits("12 56 3456 4561"), noDictionary} {
			strokes := slices.Clone(all)
			longest, _ := impl.Segment(d, strokes[:n])
			fewest, _ := impl.FewestPieces(d, strokes[:n])
			if !slices.Equal(longest, expectedSegment(d, all[:n])) || !slices.Equal(fewest, expectedFewest(d, all[:n])) {
				t.Errorf("%v of %v: %s, %s", all[:n], all, shownPieces(longest), shownPieces(fewest))
			}
			for from := range n {
				if p, ok := impl.MatchAt(d, strokes[:n], from); !ok || p != expectedMatch(d, all[:n], from) {
					t.Errorf("%v of %v at %d: %v", all[:n], all, from, p)
				}
			}
			checkStrokes(t, strokes, all...)
		}
	}
	cut, rest := digits("123456"), pieces(piece(0, 6, "123456"))
	if yes, ok := impl.IsSegmentation(ofDigits("123456"), cut[:5], rest); yes || !ok {
		t.Error("a piece beyond the strokes")
	}
}

// Longest match never leaves these strokes untranslated, but a segmentation may.
func TestEntriesThatASegmentationDoesNotUse(t *testing.T) {
	d := ofDigits("1 2 12")
	for _, l := range []string{"1 2", "1? 2", "1 2?", "1? 2?", "12"} {
		checkIsSegmentation(t, d, digits("12"), inTurn(l), true, true)
	}
	checkIsSegmentation(t, d, digits("12"), pieces(piece(0, 2, "")), false, true)
	checkSegment(t, d, digits("12"), inTurn("12"), true)
	checkSegment(t, d, digits("21"), inTurn("2 1"), true)
	checkFewest(t, d, digits("21"), inTurn("2 1"), true)
}

func TestEntriesWithTheSameText(t *testing.T) {
	d := dictionary(entryOf("a", 1), entryOf("a", 1, 2), entryOf("a", 2), entryOf("b", 3))
	checkMatching(t, d, digits("1231"))
	for _, l := range [][]impl.Piece{
		pieces(piece(0, 2, "a"), piece(2, 1, "b"), piece(3, 1, "a")), pieces(piece(0, 1, "a"), piece(1, 1, "a"), piece(2, 1, "b"), piece(3, 1, "")),
	} {
		checkIsSegmentation(t, d, digits("1231"), l, true, true)
	}
	checkIsSegmentation(t, d, digits("1231"), pieces(piece(0, 3, "a"), piece(3, 1, "a")), false, true)
	checkIsSegmentation(t, d, digits("1231"), pieces(piece(0, 2, "a"), piece(2, 1, "a"), piece(3, 1, "a")), false, true)
}

func TestTextsOfPieces(t *testing.T) {
	for _, text := range validTexts {
		d := dictionary(entryOf("b", 1), entryOf(text, 2), entryOf("c", 2, 2, 3), entryOf(text, largestStroke, 1))
		checkMatching(t, d, []int{2, 2, 1, largestStroke, 1, largestStroke})
		checkSegment(t, d, []int{2, largestStroke, 1}, pieces(piece(0, 1, text), piece(1, 2, text)), true)
		checkIsSegmentation(t, d, []int{2}, pieces(piece(0, 1, text+" ")), false, true)
		checkIsSegmentation(t, d, []int{2}, pieces(piece(0, 1, text[1:])), len(text) == 1, true)
	}
}

// checkNone expects that l is no segmentation.
func checkNone(t *testing.T, d impl.Dictionary, strokes []int, l ...impl.Piece) {
	t.Helper()
	if expectedIsSegmentation(d, strokes, l) {
		t.Errorf("not what the test needs: %s of %v", shownPieces(l), strokes)
	}
	checkIsSegmentation(t, d, strokes, l, false, true)
}

func TestPiecesThatDoNotCoverTheStrokesInOrder(t *testing.T) {
	d, strokes := ofDigits("1 2 4 12 23 234"), digits("1234")
	checkNone(t, d, strokes)
	checkNone(t, d, strokes, inTurn("1 2")...)
	checkNone(t, d, strokes, inTurn("12 3?")...)
	checkNone(t, d, strokes, inTurn("1 234 5?")...)
	checkNone(t, d, strokes, inTurn("1 23 4 1")...)
	checkNone(t, d, strokes, inTurn("1 23 4 12")...)
	checkNone(t, d, strokes, piece(0, 1, "1"), piece(2, 1, ""), piece(3, 1, "4"))
	checkNone(t, d, strokes, piece(0, 1, ""), piece(2, 1, ""), piece(3, 1, ""))
	checkNone(t, d, strokes, piece(0, 1, "1"), piece(1, 2, "23"))
	checkNone(t, d, strokes, piece(0, 2, "12"), piece(3, 1, "4"))
	checkNone(t, d, strokes, piece(0, 2, "12"), piece(1, 3, "234"))
	checkNone(t, d, strokes, piece(0, 2, "12"), piece(1, 2, "23"), piece(3, 1, "4"))
	checkNone(t, d, strokes, piece(0, 1, "1"), piece(0, 2, "12"), piece(2, 1, ""), piece(3, 1, ""))
	checkNone(t, d, strokes, piece(1, 3, "234"))
	checkNone(t, d, strokes, piece(1, 1, "2"), piece(2, 1, ""), piece(3, 1, ""))
	checkNone(t, d, strokes, piece(1, 3, "234"), piece(0, 1, "1"))
	checkNone(t, d, strokes, piece(0, 2, "12"), piece(3, 1, "4"), piece(2, 1, ""))
	checkNone(t, d, strokes, piece(0, 1, "1"), piece(1, 3, "234"), piece(1, 3, "234"))
	checkNone(t, d, strokes, piece(0, 1, "1"), piece(1, 3, "234"), piece(4, 0, ""))
	checkNone(t, d, strokes, piece(0, 1, "1"), piece(1, 3, "234"), noPiece)
	checkNone(t, d, strokes, piece(0, 4, "1"), piece(4, 1, ""))
	checkNone(t, d, strokes, untranslated(3)...)
	checkNone(t, d, strokes, untranslated(5)...)
	checkNone(t, d, strokes, untranslated(61)...)
	checkNone(t, d, strokes, untranslated(1<<16)...)
	checkNone(t, d, strokes, make([]impl.Piece, 1<<16)...)
	checkNone(t, d, digits("12312"), inTurn("12 3? 1 2 4")...)
}

func TestPiecesThatAreNone(t *testing.T) {
	d, strokes := ofDigits("1 2 4 12 23 234 1234"), digits("1234")
	far := []int{math.MinInt, math.MinInt + 1, -1 << 32, -4, -2, -1, 5, 60, 256, 1 << 32, math.MaxInt - 1, math.MaxInt}
	for i, p := range inTurn("1 23 4") {
		for _, n := range append(far, 0) {
			for _, text := range []string{p.Text, "", "1"} {
				l := inTurn("1 23 4")
				l[i] = piece(p.From, n, text)
				checkNone(t, d, strokes, l...)
				checkNone(t, d, strokes, slices.Insert(inTurn("1 23 4"), i, piece(p.From, n, text))...)
			}
		}
		for _, from := range far {
			l := inTurn("1 23 4")
			l[i].From = from
			checkNone(t, d, strokes, l...)
			l[i] = piece(from, 4-from, p.Text)
			checkNone(t, d, strokes, l...)
		}
		for _, text := range append(slices.Clone(invalidTexts), "12", "3", "34", "123", "cat", " "+p.Text, p.Text+" ", p.Text+"?") {
			if text == "" && p.Count == 1 {
				continue
			}
			l := inTurn("1 23 4")
			l[i].Text = text
			checkNone(t, d, strokes, l...)
		}
	}
	checkNone(t, d, strokes, piece(0, 4, ""))
	checkNone(t, d, strokes, piece(0, 2, "1"), piece(2, 1, ""), piece(3, 1, "4"))
	checkNone(t, d, strokes, piece(0, 2, ""), piece(2, 1, ""), piece(3, 1, "4"))
	checkNone(t, d, strokes, piece(0, 2, "12"), piece(2, 2, ""))
	checkNone(t, d, strokes, piece(0, 2, "12"), piece(2, 2, "34"))
	checkNone(t, d, strokes, piece(0, 2, "12"), piece(2, 1, "3"), piece(3, 1, "4"))
	checkNone(t, d, strokes, piece(0, 1, "12"), piece(1, 1, "2"), piece(2, 1, ""), piece(3, 1, "4"))
	checkNone(t, d, strokes, piece(0, 1, "2"), piece(1, 1, "1"), piece(2, 1, ""), piece(3, 1, "4"))
}

func TestCountUntranslatedOfAnyList(t *testing.T) {
	checkUntranslated(t, nil, 0)
	checkUntranslated(t, pieces(), 0)
	checkUntranslated(t, pieces(noPiece), 1)
	checkUntranslated(t, pieces(noPiece, noPiece, noPiece), 3)
	checkUntranslated(t, inTurn("1 2? 345 6? 7"), 2)
	checkUntranslated(t, inTurn("1 2 34"), 0)
	checkUntranslated(t, pieces(piece(3, 0, ""), piece(-5, 100, ""), piece(math.MaxInt, math.MaxInt, ""), piece(math.MinInt, math.MinInt, "")), 4)
	checkUntranslated(t, pieces(piece(3, 0, "x"), piece(-5, 100, " "), piece(0, 1, "\x00"), piece(0, 1, "{"), piece(0, 1, "?")), 0)
	checkUntranslated(t, slices.Repeat(pieces(piece(0, 1, ""), piece(0, 1, "a")), 50000), 50000)
	for n := range 200 {
		checkUntranslated(t, append(untranslated(n), inTurn("1 2? 3")...), n+1)
	}
}

func TestInvalidDictionariesMatched(t *testing.T) {
	lists := [][]int{nil, {1}, {2}, digits("123456"), strokesOf("KAT/-S"), slices.Repeat([]int{10, 1}, 30)}
	for _, d := range invalidDictionaries() {
		for _, strokes := range lists {
			checkNotMatching(t, d, strokes)
		}
	}
	for i := range 40 {
		d := numbered(40)
		d.Entries[i].Text = "{"
		checkNotMatching(t, d, slices.Repeat([]int{10, 1}, 30))
	}
	for _, text := range invalidTexts {
		checkNotMatching(t, dictionary(entryOf("a", 1), entryOf(text, 2)), []int{1, 2})
		checkNotMatching(t, dictionary(entryOf("a", 1), entryOf(text, 2)), []int{1})
	}
	for _, o := range notOutlines() {
		checkNotMatching(t, dictionary(entryOf("a", 1), entryOf("b", o...)), []int{1})
	}
}

// The other strokes are valid and match, whether they stand ahead of the invalid one or behind it.
func TestInvalidStrokesMatched(t *testing.T) {
	d := ofDigits("1 2 12 121 212 121212")
	for _, s := range notStrokes {
		checkNotMatching(t, d, []int{s})
		checkNotMatching(t, noDictionary, []int{s})
		for i := range 6 {
			strokes := digits("121212")
			strokes[i] = s
			checkNotMatching(t, d, strokes)
			checkNotMatching(t, noDictionary, strokes)
		}
		for _, i := range []int{0, 30, 58, 59} {
			strokes := slices.Repeat([]int{1, 2}, 30)
			strokes[i] = s
			checkNotMatching(t, d, strokes)
		}
		// Behind the last stroke it does no harm.
		checkMatching(t, d, append(digits("121212"), s)[:6])
	}
	checkNotMatching(t, ofDigits("1"), append(slices.Repeat([]int{1}, 60), 0))
	checkNotMatching(t, numbered(41), slices.Repeat([]int{10}, 61))
	checkNotMatching(t, numbered(41), []int{0})
}

// checkAllSegmentations tries all segmentations, of which none may be better than the optimal one.
func checkAllSegmentations(t *testing.T, d impl.Dictionary, strokes []int, all [][]impl.Piece) {
	t.Helper()
	best := slices.MinFunc(all, func(a, b []impl.Piece) int { return slices.Compare(rank(a), rank(b)) })
	checkFewest(t, d, strokes, best, true)
	longest, _ := impl.Segment(d, strokes)
	if !slices.ContainsFunc(all, func(l []impl.Piece) bool { return slices.Equal(l, longest) }) {
		t.Errorf("Segment(%s, %v) is no segmentation: %s", shownDictionary(d), strokes, shownPieces(longest))
	}
}

func TestAllSmallDictionariesMatched(t *testing.T) {
	outlines := strings.Fields("1 2 11 12 21 22")
	lists := slices.Concat(listsOver([]int{1, 2}, 1), listsOver([]int{1, 2}, 2), listsOver([]int{1, 2}, 3), listsOver([]int{1, 2}, 4), listsOver([]int{1, 2}, 5))
	for _, chosen := range listsOver([]int{0, 1}, len(outlines)) {
		text := ""
		for i, o := range outlines {
			text += strings.Repeat(o+" ", chosen[i])
		}
		d := ofDigits(text)
		for _, strokes := range lists {
			checkMatching(t, d, strokes)
			all := allSegmentations(d, strokes, 0)
			checkAllSegmentations(t, d, strokes, all)
			if len(strokes) > 3 {
				continue
			}
			for _, l := range all {
				checkIsSegmentation(t, d, strokes, l, true, true)
			}
		}
	}
}

// piecesOver lists all pieces whose From and Count lie between least and the given numbers.
func piecesOver(least, from, count int, texts ...string) []impl.Piece {
	var l []impl.Piece
	for i := least; i <= from; i++ {
		for n := least; n <= count; n++ {
			for _, text := range texts {
				l = append(l, piece(i, n, text))
			}
		}
	}
	return l
}

func TestAllSmallListsOfPieces(t *testing.T) {
	d := ofDigits("1 12")
	yes := 0
	check := func(strokes []int, l ...impl.Piece) {
		want := expectedIsSegmentation(d, strokes, l)
		if want {
			yes++
		}
		checkIsSegmentation(t, d, strokes, l, want, true)
	}
	few, fewer := piecesOver(-1, 3, 3, "", "1", "12"), piecesOver(0, 2, 2, "", "1", "12")
	for _, strokes := range [][]int{nil, digits("1"), digits("12"), digits("121")} {
		for _, p := range few {
			check(strokes, p)
			for _, q := range few {
				check(strokes, p, q)
			}
		}
		for _, p := range fewer {
			for _, q := range fewer {
				check(strokes, p, q, piece(2, 1, ""))
				check(strokes, p, q, piece(2, 1, "1"))
			}
		}
	}
	// None of these lists is empty: two for "1"; "12" is one piece, or two in two ways; "121" is
	// two pieces in two ways, or three in four ways.
	if yes != 2+1+2+2+4 {
		t.Error("segmentations", yes)
	}
}

// matchingDictionary makes the outlines meet: they have few strokes in common with the rest.
func matchingDictionary(r *rand.Rand, n int) impl.Dictionary {
	var d impl.Dictionary
	for len(d.Entries) < n {
		o := make([]int, 1+r.Intn(6))
		for i := range o {
			o[i] = []int{1, 2, largestStroke}[r.Intn(3)]
		}
		d = with(d, entryOf(validTexts[r.Intn(len(validTexts))], o...))
	}
	return d
}

// matchingStrokes puts outlines of d, and parts of them, one behind the other.
func matchingStrokes(r *rand.Rand, d impl.Dictionary, n int) []int {
	var strokes []int
	for len(strokes) < n {
		o := randomOutlineOfFew(r)
		if len(d.Entries) > 0 && r.Intn(5) > 0 {
			o = d.Entries[r.Intn(len(d.Entries))].Outline
		}
		strokes = append(strokes, o[r.Intn(1+r.Intn(len(o))):]...)
	}
	return strokes[:n]
}

func TestRandomStrokesMatched(t *testing.T) {
	r := rand.New(rand.NewSource(1111))
	hidden, shorter, same := 0, 0, 0
	for i := range 400 {
		d := matchingDictionary(r, []int{2, 5, 8, 12, 20, 40}[i%6])
		strokes := matchingStrokes(r, d, []int{5, 10, 20, 40, 60}[i%5])
		checkMatching(t, d, strokes)
		longest, fewest := costOf(expectedSegment(d, strokes)), costOf(expectedFewest(d, strokes))
		switch {
		case fewest[0] < longest[0]:
			hidden++
		case fewest[1] < longest[1]:
			shorter++
		default:
			same++
		}
	}
	if hidden < 50 || shorter < 20 || same < 50 {
		t.Error("the strokes do not try all cases", hidden, shorter, same)
	}
}

// spoilPiece changes one piece of l, leaves one out or puts one in.
func spoilPiece(r *rand.Rand, d impl.Dictionary, l []impl.Piece) []impl.Piece {
	l = slices.Clone(l)
	i := r.Intn(len(l))
	switch r.Intn(7) {
	case 0:
		return slices.Delete(l, i, i+1)
	case 1:
		return slices.Insert(l, i, l[r.Intn(len(l))])
	case 2:
		l[i].From += r.Intn(5) - 2
	case 3:
		l[i].Count += r.Intn(5) - 2
	case 4:
		l[i].Text = append(d.Entries, impl.Entry{})[r.Intn(len(d.Entries)+1)].Text
	case 5:
		l[i] = piece(l[i].From, 1, "")
	default:
		j := r.Intn(len(l))
		l[i], l[j] = l[j], l[i]
	}
	return l
}

func TestRandomPieces(t *testing.T) {
	r := rand.New(rand.NewSource(111))
	yes, no := 0, 0
	for i := range 1500 {
		d := matchingDictionary(r, []int{0, 1, 3, 8, 20, 40}[i%6])
		strokes := matchingStrokes(r, d, []int{1, 5, 10, 25, 60}[i%5])
		var l []impl.Piece
		for covered := 0; covered < len(strokes); covered += l[len(l)-1].Count {
			choices := expectedAt(d, strokes, covered)
			l = append(l, choices[r.Intn(len(choices))])
		}
		checkIsSegmentation(t, d, strokes, l, true, true)
		spoilt := spoilPiece(r, d, l)
		want := expectedIsSegmentation(d, strokes, spoilt)
		checkIsSegmentation(t, d, strokes, spoilt, want, true)
		checkUntranslated(t, spoilt, costOf(spoilt)[0])
		if want {
			yes++
		} else {
			no++
		}
	}
	if yes < 100 || no < 500 {
		t.Error("the pieces do not try both cases", yes, no)
	}
}

// Promise 11, where all segmentations are tried.
func TestNoSegmentationIsBetter(t *testing.T) {
	r := rand.New(rand.NewSource(11))
	most := 0
	for i := range 400 {
		d := matchingDictionary(r, i%41)
		strokes := matchingStrokes(r, d, 1+i%8)
		all := allSegmentations(d, strokes, 0)
		checkAllSegmentations(t, d, strokes, all)
		most = max(most, len(all))
	}
	if most < 200 {
		t.Error("there is not much to choose from", most)
	}
}

// Promise 11, with the functions of chapters 6, 7 and 11 on both sides.
func TestLongestMatchCoversAllStrokes(t *testing.T) {
	r := rand.New(rand.NewSource(110))
	translated := 0
	for i := range 200 {
		d := matchingDictionary(r, 1+i%40)
		strokes := matchingStrokes(r, d, i%61)
		tr, _ := impl.BuildTrie(d)
		longest, _ := impl.Segment(d, strokes)
		fewest, _ := impl.FewestPieces(d, strokes)
		checkIsSegmentation(t, d, strokes, longest, true, true)
		checkIsSegmentation(t, d, strokes, fewest, true, true)
		if impl.CountUntranslated(fewest) > impl.CountUntranslated(longest) {
			t.Errorf("%s leaves more untranslated than %s", shownPieces(fewest), shownPieces(longest))
		}
		for _, p := range longest {
			checkMatch(t, d, strokes, p.From, p)
			count, text, _ := impl.LongestPrefix(tr, strokes[p.From:])
			if text != p.Text || max(count, 1) != p.Count {
				t.Errorf("the trie of %s finds %d, %q; the match is %v", shownDictionary(d), count, text, p)
			}
		}
		for _, p := range slices.Concat(longest, fewest) {
			if p.Text != "" {
				checkLookup(t, d, strokes[p.From:p.From+p.Count], p.Text)
				translated++
			}
		}
	}
	if translated < 1000 {
		t.Error("not much is translated", translated)
	}
}

func TestPiecesAreNewMemory(t *testing.T) {
	d, strokes := ofDigits("1 12 123 234 34"), digits("123412")
	longest, fewest := inTurn("123 4? 12"), inTurn("12 34 12")
	for range 3 {
		first, _ := impl.Segment(d, strokes)
		second, _ := impl.FewestPieces(d, strokes)
		if !slices.Equal(first, longest) || !slices.Equal(second, fewest) {
			t.Error("shared", shownPieces(first), shownPieces(second))
		}
		overwritePieces(first)
		overwritePieces(second)
		checkSegment(t, d, strokes, longest, true)
		checkFewest(t, d, strokes, fewest, true)
		for from := range strokes {
			checkMatch(t, d, strokes, from, expectedMatch(d, strokes, from))
		}
	}
}
