package tests

import (
	"math"
	"slices"
	"strconv"
	"strings"
	"testing"

	"loop.example/g00882/impl"
)

// Promise 2: stroke notation round-trips, and relaxed notation accepts every canonical one with
// the same value. Promise 26, for chapter 2: every function returns for all arguments and
// modifies none of them.

// The labels of keys 0..12 and of keys 13..22. The program keeps them in one piece.
const (
	firstLabels = "#STKPWHRAO*EU"
	rightLabels = "FRPBLGTSDZ"
)

const (
	smallestStroke = 1
	largestStroke  = 8388607
	noStroke       = 0
)

// notStrokes lists ints that are no strokes, among them some whose lowest 23 bits would be one.
var notStrokes = []int{
	0, -1, -2, -1024, -8388607, -8388608, 8388608, 8388609, 8388608 + 1024, 16777215, 1 << 24,
	1 << 31, 1<<32 + 1, -1 << 32, 1<<62 + 2, math.MaxInt, math.MinInt, math.MinInt + 1,
}

func checkFormatStroke(t *testing.T, s int, want string, wantOK bool) {
	t.Helper()
	if got, ok := impl.FormatStroke(s); got != want || ok != wantOK {
		t.Errorf("FormatStroke(%d) = %q, %v; want %q, %v", s, got, ok, want, wantOK)
	}
}

// checkNotation runs one of the two parsers; it expects a failure if want is noStroke.
func checkNotation(t *testing.T, name string, parse func(string) (int, bool), text string, want int) {
	t.Helper()
	if got, ok := parse(text); got != want || ok != (want != noStroke) {
		t.Errorf("%s(%.60q) = %d, %v; want %d", name, text, got, ok, want)
	}
}

func checkParseStroke(t *testing.T, text string, want int) {
	t.Helper()
	checkNotation(t, "ParseStroke", impl.ParseStroke, text, want)
}

func checkParseLooseStroke(t *testing.T, text string, want int) {
	t.Helper()
	checkNotation(t, "ParseLooseStroke", impl.ParseLooseStroke, text, want)
}

func checkKeysOf(t *testing.T, s int, want []int, wantOK bool) {
	t.Helper()
	if got, ok := impl.KeysOf(s); !slices.Equal(got, want) || ok != wantOK {
		t.Errorf("KeysOf(%d) = %v, %v; want %v, %v", s, got, ok, want, wantOK)
	}
}

func checkNewStroke(t *testing.T, keys []int, want int) {
	t.Helper()
	if got, ok := impl.NewStroke(keys); got != want || ok != (want != noStroke) {
		t.Errorf("NewStroke(%.30v) = %d, %v; want %d", keys, got, ok, want)
	}
}

func checkMergeStrokes(t *testing.T, a, b, want int) {
	t.Helper()
	if got, ok := impl.MergeStrokes(a, b); got != want || ok != (want != noStroke) {
		t.Errorf("MergeStrokes(%d, %d) = %d, %v; want %d", a, b, got, ok, want)
	}
}

// of sums the powers of two of distinct keys.
func of(keys ...int) int {
	s := 0
	for _, key := range keys {
		s += 1 << key
	}
	return s
}

// expectedNotation writes both halves of a stroke and decides on the hyphen by their letters.
func expectedNotation(s int) string {
	first := pressedLabels(s, firstLabels)
	right := pressedLabels(s>>len(firstLabels), rightLabels)
	if right != "" && !strings.ContainsAny(first, "AO*EU") {
		return first + "-" + right
	}
	return first + right
}

func pressedLabels(s int, labels string) string {
	var text []byte
	for i := range len(labels) {
		if s%2 == 1 {
			text = append(text, labels[i])
		}
		s /= 2
	}
	return string(text)
}

// expectedLoose reads as much as possible from the first half, which is where the smallest keys
// lie, and the rest from the right bank. A hyphen states where the one ends and the other begins.
func expectedLoose(text string) int {
	first, right, hyphen := strings.Cut(text, "-")
	s, rest := takeLabels(first, firstLabels)
	if hyphen && rest != "" {
		return noStroke
	}
	more, left := takeLabels(rest+right, rightLabels)
	if left != "" {
		return noStroke
	}
	return s + more<<len(firstLabels)
}

// takeLabels matches text with labels from left to right and returns the rest that does not fit.
func takeLabels(text, labels string) (int, string) {
	s := 0
	for i := range len(labels) {
		if text != "" && text[0] == labels[i] {
			s += 1 << i
			text = text[1:]
		}
	}
	return s, text
}

func TestConstantOfChapter2(t *testing.T) {
	if impl.KeyCount != 23 {
		t.Error("keys", impl.KeyCount)
	}
}

func TestIsValidStroke(t *testing.T) {
	for _, s := range []int{smallestStroke, 2, 3, 1024, 4194304, 4194306, largestStroke - 1, largestStroke} {
		if !impl.IsValidStroke(s) {
			t.Error("not valid", s)
		}
	}
	for _, s := range notStrokes {
		if impl.IsValidStroke(s) {
			t.Error("valid", s)
		}
	}
}

func TestStrokesOfOneKey(t *testing.T) {
	for key := range len(firstLabels) {
		checkFormatStroke(t, of(key), firstLabels[key:key+1], true)
		checkParseStroke(t, firstLabels[key:key+1], of(key))
	}
	for i := range len(rightLabels) {
		checkFormatStroke(t, of(13+i), "-"+rightLabels[i:i+1], true)
		checkParseStroke(t, "-"+rightLabels[i:i+1], of(13+i))
		checkParseLooseStroke(t, "-"+rightLabels[i:i+1], of(13+i))
	}
}

func TestFormatStroke(t *testing.T) {
	checkFormatStroke(t, 4194306, "S-Z", true)
	checkFormatStroke(t, of(3, 8, 19), "KAT", true)
	checkFormatStroke(t, of(1, 2), "ST", true)
	checkFormatStroke(t, of(1, 20), "S-S", true)
	checkFormatStroke(t, of(2, 19), "T-T", true)
	checkFormatStroke(t, of(4, 7, 14, 15), "PR-RP", true)
	checkFormatStroke(t, of(1, 2, 19, 20), "ST-TS", true)
	checkFormatStroke(t, of(0, 1, 8), "#SA", true)
	checkFormatStroke(t, of(0, 22), "#-Z", true)
	checkFormatStroke(t, of(7, 13), "R-F", true)
	checkFormatStroke(t, of(7, 14), "R-R", true)
}

func TestAnyKeyOfTheMiddleReplacesTheHyphen(t *testing.T) {
	checkFormatStroke(t, of(1, 8, 20), "SAS", true)
	checkFormatStroke(t, of(1, 9, 20), "SOS", true)
	checkFormatStroke(t, of(1, 10, 20), "S*S", true)
	checkFormatStroke(t, of(1, 11, 20), "SES", true)
	checkFormatStroke(t, of(1, 12, 20), "SUS", true)
	checkFormatStroke(t, of(8, 13), "AF", true)
	checkFormatStroke(t, of(12, 22), "UZ", true)
	checkFormatStroke(t, of(0, 8, 9, 10, 11, 12), "#AO*EU", true)
}

func TestFormatStrokeAtTheLimits(t *testing.T) {
	checkFormatStroke(t, smallestStroke, "#", true)
	checkFormatStroke(t, largestStroke, "#STKPWHRAO*EUFRPBLGTSDZ", true)
	checkFormatStroke(t, largestStroke-1, "STKPWHRAO*EUFRPBLGTSDZ", true)
	checkFormatStroke(t, largestStroke-of(8, 9, 10, 11, 12), "#STKPWHR-FRPBLGTSDZ", true)
	for _, s := range notStrokes {
		checkFormatStroke(t, s, "", false)
	}
}

// The notations differ from one another too, since each one leads back to its stroke. There are
// over eight million of them, hence the parts side by side.
func TestEveryStrokeRoundTrips(t *testing.T) {
	const parts = 8
	for part := range parts {
		t.Run(strconv.Itoa(part), func(t *testing.T) {
			t.Parallel()
			for s := smallestStroke + part; s <= largestStroke; s += parts {
				roundTrip(t, s)
			}
		})
	}
}

func roundTrip(t *testing.T, s int) {
	want := expectedNotation(s)
	if text, ok := impl.FormatStroke(s); !ok || text != want {
		t.Fatalf("FormatStroke(%d) = %q, %v; want %q", s, text, ok, want)
	}
	if back, ok := impl.ParseStroke(want); !ok || back != s {
		t.Fatalf("ParseStroke(%q) = %d, %v; want %d", want, back, ok, s)
	}
	if back, ok := impl.ParseLooseStroke(want); !ok || back != s {
		t.Fatalf("ParseLooseStroke(%q) = %d, %v; want %d", want, back, ok, s)
	}
}

func TestParseStroke(t *testing.T) {
	checkParseStroke(t, "KAT", of(3, 8, 19))
	checkParseStroke(t, "S-Z", 4194306)
	checkParseStroke(t, "ST-TS", of(1, 2, 19, 20))
	checkParseStroke(t, "#STKPWHR-FRPBLGTSDZ", largestStroke-of(8, 9, 10, 11, 12))
	checkParseStroke(t, "#STKPWHRAO*EUFRPBLGTSDZ", largestStroke)
}

func TestParseStrokeRejectsARelaxedHyphen(t *testing.T) {
	for _, text := range []string{
		"KA-T", "KAT-", "A-F", "O-F", "*-F", "E-F", "U-F", "*-", "#-", "S-", "KA-", "STK-", "#STKPWHRAO*EU-FRPBLGTSDZ",
	} {
		checkParseStroke(t, text, noStroke)
	}
	for _, text := range []string{"TS", "SS", "STS", "F", "Z", "D", "B", "L", "G", "#Z", "RR", "PRP", "STSD"} {
		checkParseStroke(t, text, noStroke)
	}
}

// notationsOfNoStroke lists what neither notation permits.
var notationsOfNoStroke = []string{
	"", "-", "--", "---", "--S", "-S-", "S--", "S--S", "S-S-", "-S-S", "S-T-Z", "F-", "-F-", "F-Z", "AF-", "A-F-", "AF-Z",
	"-#", "-K", "-W", "-H", "-A", "-O", "-*", "-E", "-U", "-SA", "S-A", "S-AT", "S-K", "-STK",
	"ZS", "-ZS", "UA", "AO*UE", "*A", "AS*", "S#", "A#", "##", "##S", "SSS", "TTT", "PPP", "RRR", "KK", "AA", "**", "-SS", "-TT", "ZZ",
	"#STKPWHRAO*EUFRPBLGTSDZZ", "##STKPWHRAO*EUFRPBLGTSDZ", "STKPWHRAO*EUFRPBLGTSDZS", "FRPBLGTSDZ#", "SA-S-", "-S-A",
	"s", "ss", "kat", "kAT", "C", "I", "M", "N", "Q", "X", "Y", "J", "V", "0", "1", "2-", "#1", "S1", "SX", "-I", "KAT/-S", "S/T", "/",
	" ", " S", "S ", "S T", "S\n", "\tS", "\x00", "S\x00", "\x00S", "\xff", "S\xff", "\x80", "S\x80",
	"+", "_", "~", ".", "=", "=S", "\u2212S", "S\u2013S", "\u2010", "\u00c5", "\u0410", "\uff33", "\u212a", "\u017f", "S\u0301",
}

func TestNotationsOfNoStroke(t *testing.T) {
	for _, text := range notationsOfNoStroke {
		checkParseStroke(t, text, noStroke)
		checkParseLooseStroke(t, text, noStroke)
	}
}

func TestLongNotations(t *testing.T) {
	for _, text := range []string{"S", "-", "#", "Z", "KAT", "S-", "-S", "STKPWHRAO*EUFRPBLGTSDZ", "x", "\u00e9", "\x00"} {
		long := strings.Repeat(text, 100000)
		for _, text := range []string{long, "S" + long, "#STKPWHRAO*EUFRPBLGTSDZ" + long, "S-" + long} {
			checkParseStroke(t, text, noStroke)
			checkParseLooseStroke(t, text, noStroke)
		}
	}
}

func TestParseLooseStrokeTakesTheSmallestKeyThatFollows(t *testing.T) {
	checkParseLooseStroke(t, "TS", of(2, 20))
	checkParseLooseStroke(t, "ST", of(1, 2))
	checkParseLooseStroke(t, "S", of(1))
	checkParseLooseStroke(t, "SS", of(1, 20))
	checkParseLooseStroke(t, "TT", of(2, 19))
	checkParseLooseStroke(t, "PP", of(4, 15))
	checkParseLooseStroke(t, "RR", of(7, 14))
	checkParseLooseStroke(t, "PR", of(4, 7))
	checkParseLooseStroke(t, "RP", of(7, 15))
	checkParseLooseStroke(t, "RT", of(7, 19))
	checkParseLooseStroke(t, "STS", of(1, 2, 20))
	checkParseLooseStroke(t, "STTS", of(1, 2, 19, 20))
	checkParseLooseStroke(t, "KATS", of(3, 8, 19, 20))
	checkParseLooseStroke(t, "FRP", of(13, 14, 15))
	checkParseLooseStroke(t, "F", of(13))
	checkParseLooseStroke(t, "Z", of(22))
	checkParseLooseStroke(t, "#Z", of(0, 22))
	checkParseLooseStroke(t, "STKPWHRFRPBLGTSDZ", largestStroke-of(0, 8, 9, 10, 11, 12))
}

func TestParseLooseStrokeWithAHyphen(t *testing.T) {
	checkParseLooseStroke(t, "KA-T", of(3, 8, 19))
	checkParseLooseStroke(t, "S-S", of(1, 20))
	checkParseLooseStroke(t, "-S", of(20))
	checkParseLooseStroke(t, "-T", of(19))
	checkParseLooseStroke(t, "-P", of(15))
	checkParseLooseStroke(t, "-R", of(14))
	checkParseLooseStroke(t, "S-T", of(1, 19))
	checkParseLooseStroke(t, "#-S", of(0, 20))
	checkParseLooseStroke(t, "R-F", of(7, 13))
	checkParseLooseStroke(t, "A-F", of(8, 13))
	checkParseLooseStroke(t, "*-F", of(10, 13))
	checkParseLooseStroke(t, "U-F", of(12, 13))
	checkParseLooseStroke(t, "-FRPBLGTSDZ", of(13, 14, 15, 16, 17, 18, 19, 20, 21, 22))
	checkParseLooseStroke(t, "#STKPWHRAO*EU-FRPBLGTSDZ", largestStroke)
}

func TestParseLooseStrokeWithAHyphenAtTheEnd(t *testing.T) {
	for key := range len(firstLabels) {
		checkParseLooseStroke(t, firstLabels[key:key+1]+"-", of(key))
	}
	checkParseLooseStroke(t, "KA-", of(3, 8))
	checkParseLooseStroke(t, "#STKPWHRAO*EU-", 8191)
	for i := range len(rightLabels) {
		checkParseLooseStroke(t, "U"+rightLabels[i:i+1]+"-", noStroke)
	}
}

// Every string of at most four characters of the keyboard, the hyphen and a letter without a key.
func TestAllShortNotations(t *testing.T) {
	checkAllNotations(t, stringsOver("#STKPWHRAO*EUFBLGDZ-x", 4))
}

// Longer ones of the characters at which the two notations go apart.
func TestAllNotationsOfFewCharacters(t *testing.T) {
	checkAllNotations(t, stringsOver("ST-AZ", 7))
	checkAllNotations(t, stringsOver("#PR-UF", 6))
}

// A notation denotes at most one key a character, so strokes of more keys need not be looked at.
func checkAllNotations(t *testing.T, notations []string) {
	t.Helper()
	canonical := canonicalNotations(len(notations[len(notations)-1]))
	for _, text := range notations {
		checkParseStroke(t, text, canonical[text])
		checkParseLooseStroke(t, text, expectedLoose(text))
	}
}

// canonicalNotations maps the notations of all strokes of at most most keys to these strokes.
func canonicalNotations(most int) map[string]int {
	strokes := map[string]int{}
	from := []int{0}
	for range most {
		var more []int
		for _, s := range from {
			for key := range 23 {
				if 1<<key > s {
					strokes[expectedNotation(s+1<<key)] = s + 1<<key
					more = append(more, s+1<<key)
				}
			}
		}
		from = more
	}
	return strokes
}

func TestKeysOf(t *testing.T) {
	checkKeysOf(t, of(3, 8, 19), []int{3, 8, 19}, true)
	checkKeysOf(t, smallestStroke, []int{0}, true)
	checkKeysOf(t, 4194306, []int{1, 22}, true)
	checkKeysOf(t, largestStroke, keysUpTo(23), true)
	checkKeysOf(t, largestStroke-1, keysUpTo(23)[1:], true)
	for key := range 23 {
		checkKeysOf(t, of(key), []int{key}, true)
	}
	for _, s := range notStrokes {
		checkKeysOf(t, s, nil, false)
	}
}

func keysUpTo(n int) []int {
	keys := make([]int, n)
	for i := range keys {
		keys[i] = i
	}
	return keys
}

func TestKeysOfReturnsNewMemory(t *testing.T) {
	first, _ := impl.KeysOf(of(3, 8, 19))
	first[0] = 22
	_ = append(first[:1], 21)
	checkKeysOf(t, of(3, 8, 19), []int{3, 8, 19}, true)
}

func TestNewStroke(t *testing.T) {
	checkNewStroke(t, []int{19, 3, 8}, of(3, 8, 19))
	checkNewStroke(t, []int{3, 8, 19}, of(3, 8, 19))
	checkNewStroke(t, []int{0}, smallestStroke)
	checkNewStroke(t, []int{22}, 4194304)
	checkNewStroke(t, []int{22, 0}, 4194305)
	checkNewStroke(t, keysUpTo(23), largestStroke)
	backwards := keysUpTo(23)
	slices.Reverse(backwards)
	checkNewStroke(t, backwards, largestStroke)
}

func TestNewStrokeRejectsKeysOutOfRange(t *testing.T) {
	checkNewStroke(t, nil, noStroke)
	checkNewStroke(t, []int{}, noStroke)
	for _, key := range []int{-1, -2, -64, 23, 24, 31, 32, 63, 64, 65, 1 << 20, 1 << 32, math.MaxInt, math.MinInt} {
		checkNewStroke(t, []int{key}, noStroke)
		checkNewStroke(t, []int{key, 3}, noStroke)
		checkNewStroke(t, []int{3, 8, key}, noStroke)
	}
	checkNewStroke(t, keysUpTo(24), noStroke)
}

func TestNewStrokeRejectsAKeyGivenTwice(t *testing.T) {
	for key := range 23 {
		other := (key + 11) % 23
		checkNewStroke(t, []int{key, key}, noStroke)
		checkNewStroke(t, []int{key, other, key}, noStroke)
		checkNewStroke(t, []int{other, key, key}, noStroke)
		checkNewStroke(t, []int{key, key, other, other}, noStroke)
		checkNewStroke(t, append(keysUpTo(23), key), noStroke)
	}
	checkNewStroke(t, []int{3, 3, 3}, noStroke)
	checkNewStroke(t, make([]int, 1<<20), noStroke)
}

func TestNewStrokeAndKeysOfAreInverse(t *testing.T) {
	for s := smallestStroke; s <= largestStroke; s += 97 {
		keys, ok := impl.KeysOf(s)
		if !ok || of(keys...) != s || !slices.IsSorted(keys) {
			t.Fatalf("KeysOf(%d) = %v, %v", s, keys, ok)
		}
		slices.Reverse(keys)
		checkNewStroke(t, keys, s)
	}
}

func TestNewStrokeLeavesItsArgument(t *testing.T) {
	all := []int{19, 3, 8, 3, -1}
	for n, want := range []int{noStroke, of(19), of(3, 19), of(3, 8, 19), noStroke, noStroke} {
		checkNewStroke(t, all[:n], want)
		if !slices.Equal(all, []int{19, 3, 8, 3, -1}) {
			t.Fatal("changed to", all)
		}
	}
}

func TestHasKey(t *testing.T) {
	for _, s := range []int{of(3, 8, 19), smallestStroke, 4194304, 4194306, largestStroke, largestStroke - of(10)} {
		text := expectedNotation(s)
		keys, _ := impl.KeysOf(s)
		for key := -70; key <= 140; key++ {
			if got := impl.HasKey(s, key); got != slices.Contains(keys, key) {
				t.Errorf("HasKey(%d, %d) = %v, but the stroke is %s", s, key, got, text)
			}
		}
		for _, key := range []int{math.MaxInt, math.MinInt, 1 << 32, -1 << 32} {
			if impl.HasKey(s, key) {
				t.Errorf("HasKey(%d, %d)", s, key)
			}
		}
	}
}

func TestHasKeyOfNoStroke(t *testing.T) {
	for _, s := range notStrokes {
		for _, key := range []int{math.MinInt, -1, 0, 1, 10, 22, 23, 24, 31, 62, 63, 64, math.MaxInt} {
			if impl.HasKey(s, key) {
				t.Errorf("HasKey(%d, %d)", s, key)
			}
		}
	}
}

func TestMergeStrokes(t *testing.T) {
	checkMergeStrokes(t, of(3, 8, 19), of(1), of(1, 3, 8, 19))
	checkMergeStrokes(t, of(1), of(3, 8, 19), of(1, 3, 8, 19))
	checkMergeStrokes(t, of(1), of(20), of(1, 20))
	checkMergeStrokes(t, smallestStroke, 4194304, 4194305)
	checkMergeStrokes(t, smallestStroke, largestStroke-1, largestStroke)
	checkMergeStrokes(t, 8191, largestStroke-8191, largestStroke)
}

func TestMergeStrokesRejectsACommonKey(t *testing.T) {
	for key := range 23 {
		checkMergeStrokes(t, of(key), of(key), noStroke)
		checkMergeStrokes(t, of(key), largestStroke, noStroke)
		checkMergeStrokes(t, largestStroke, of(key), noStroke)
		checkMergeStrokes(t, of(key, (key+1)%23), of(key, (key+2)%23), noStroke)
		checkMergeStrokes(t, of(key), largestStroke-of(key), largestStroke)
	}
}

func TestMergeStrokesRejectsNoStrokes(t *testing.T) {
	for _, s := range notStrokes {
		for _, valid := range []int{smallestStroke, 2, of(3, 8, 19), 4194304, largestStroke} {
			checkMergeStrokes(t, s, valid, noStroke)
			checkMergeStrokes(t, valid, s, noStroke)
		}
		for _, other := range notStrokes {
			checkMergeStrokes(t, s, other, noStroke)
		}
	}
}
