package tests

import (
	"bytes"
	"math"
	"math/big"
	"math/rand"
	"slices"
	"strconv"
	"strings"
	"testing"

	"loop.example/g00882/impl"
)

// Promise 1: decimal formatting and splitting round-trip, and any single changed byte of a
// checksummed string is detected. Promise 26, for chapter 1: every function returns for all
// arguments and modifies none of them.

// longDigits would overflow an int many times over; read without care, it may wrap to anything.
var longDigits = strings.Repeat("9", 100000)

func checkFormatInt(t *testing.T, n int, want string, wantOK bool) {
	t.Helper()
	if got, ok := impl.FormatInt(n); got != want || ok != wantOK {
		t.Errorf("FormatInt(%d) = %q, %v; want %q, %v", n, got, ok, want, wantOK)
	}
}

func checkParseInt(t *testing.T, s string, want int, wantOK bool) {
	t.Helper()
	if got, ok := impl.ParseInt(s); got != want || ok != wantOK {
		t.Errorf("ParseInt(%.60q) = %d, %v; want %d, %v", s, got, ok, want, wantOK)
	}
}

func checkSplit(t *testing.T, s, sep string, want []string, wantOK bool) {
	t.Helper()
	if got, ok := impl.SplitString(s, sep); !slices.Equal(got, want) || ok != wantOK {
		t.Errorf("SplitString(%.60q, %q) = %.200q, %v; want %.200q, %v", s, sep, got, ok, want, wantOK)
	}
}

func checkJoin(t *testing.T, parts []string, sep, want string, wantOK bool) {
	t.Helper()
	if got, ok := impl.JoinStrings(parts, sep); got != want || ok != wantOK {
		t.Errorf("JoinStrings(%.200q, %q) = %.60q, %v; want %.60q, %v", parts, sep, got, ok, want, wantOK)
	}
}

func checkAppend(t *testing.T, s, want string, wantOK bool) {
	t.Helper()
	if got, ok := impl.AppendChecksum(s); got != want || ok != wantOK {
		t.Errorf("AppendChecksum(%.60q) = %.60q, %v; want %.60q, %v", s, got, ok, want, wantOK)
	}
}

func checkVerify(t *testing.T, s, want string, wantOK bool) {
	t.Helper()
	if got, ok := impl.VerifyChecksum(s); got != want || ok != wantOK {
		t.Errorf("VerifyChecksum(%.60q) = %.60q, %v; want %.60q, %v", s, got, ok, want, wantOK)
	}
}

func TestConstantsOfChapter1(t *testing.T) {
	if impl.MaxString != 4000 || impl.MaxDecimal != 999999 {
		t.Error("limits", impl.MaxString, impl.MaxDecimal)
	}
}

func TestFormatInt(t *testing.T) {
	checkFormatInt(t, 0, "0", true)
	checkFormatInt(t, 7, "7", true)
	checkFormatInt(t, -7, "-7", true)
	checkFormatInt(t, -12, "-12", true)
	checkFormatInt(t, 100, "100", true)
	checkFormatInt(t, 999999, "999999", true)
	checkFormatInt(t, -999999, "-999999", true)
	for _, n := range []int{1000000, -1000000, math.MaxInt, math.MinInt, 1 << 32, -1 << 32} {
		checkFormatInt(t, n, "", false)
	}
}

func TestEveryDecimalRoundTrips(t *testing.T) {
	for n := -impl.MaxDecimal; n <= impl.MaxDecimal; n++ {
		s, ok := impl.FormatInt(n)
		if !ok || s != strconv.Itoa(n) {
			t.Fatalf("FormatInt(%d) = %q, %v", n, s, ok)
		}
		if m, ok := impl.ParseInt(s); !ok || m != n {
			t.Fatalf("ParseInt(%q) = %d, %v", s, m, ok)
		}
	}
}

func TestParseIntOfOrdinaryNumbers(t *testing.T) {
	checkParseInt(t, "0", 0, true)
	checkParseInt(t, "9", 9, true)
	checkParseInt(t, "-1", -1, true)
	checkParseInt(t, "120", 120, true)
	checkParseInt(t, "999999", 999999, true)
	checkParseInt(t, "-999999", -999999, true)
}

func TestParseIntRejectsEveryOtherNotation(t *testing.T) {
	for _, s := range []string{
		"", "-", "+", "--", "-+1", "+-1", "--1", "---12",
		"-0", "+0", "00", "-00", "01", "001", "-01", "00000000000000000001",
		"+1", "+12", "+999999", "1000000", "-1000000", "1000001", "9999999", "10000000",
		" 1", "1 ", "1\n", "\t1", "1 2", "1-", "1-2", "12-", "-1-", "1x", "x1", "x", "1.0", "1,000",
		"1_0", "0x1", "0b1", "0o7", "1e3", "Inf", "NaN", "1\x00", "\x00", "\x001", "/", ":", "1:", "1/",
		"\uff11", "\u0661", "\u22121", "\xff", "1\xff",
		"4294967297", "-4294967297", "18446744073709551617", "-18446744073709551617",
		"9223372036854775807", "-9223372036854775808", "340282366920938463463374607431768211457",
		longDigits, "-" + longDigits, "1" + strings.Repeat("0", 100000), strings.Repeat("0", 100000) + "1",
		strings.Repeat("-", 100000),
	} {
		checkParseInt(t, s, 0, false)
	}
}

// Every string of at most four bytes of an alphabet in which the near misses lie.
func TestParseIntAcceptsExactlyTheFormattedNumbers(t *testing.T) {
	formatted := map[string]int{}
	for n := -999; n <= 9999; n++ {
		formatted[strconv.Itoa(n)] = n
	}
	for _, s := range stringsOver("019+-_ .", 4) {
		want, wantOK := formatted[s]
		checkParseInt(t, s, want, wantOK)
	}
}

// stringsOver lists all strings of at most most bytes of the alphabet.
func stringsOver(alphabet string, most int) []string {
	all := []string{""}
	from := 0
	for range most {
		to := len(all)
		for _, s := range all[from:to] {
			for i := range len(alphabet) {
				all = append(all, s+alphabet[i:i+1])
			}
		}
		from = to
	}
	return all
}

func TestSplitString(t *testing.T) {
	checkSplit(t, "a,,b", ",", []string{"a", "", "b"}, true)
	checkSplit(t, "", ",", []string{""}, true)
	checkSplit(t, ",", ",", []string{"", ""}, true)
	checkSplit(t, ",,", ",", []string{"", "", ""}, true)
	checkSplit(t, "abc", ",", []string{"abc"}, true)
	checkSplit(t, ",abc", ",", []string{"", "abc"}, true)
	checkSplit(t, "abc,", ",", []string{"abc", ""}, true)
	checkSplit(t, "a,b;c", ";", []string{"a,b", "c"}, true)
	checkSplit(t, "a b\nc", "\n", []string{"a b", "c"}, true)
	checkSplit(t, "a\x00b", "\x00", []string{"a", "b"}, true)
	checkSplit(t, "A.a.", "a", []string{"A.", "."}, true)
}

func TestSplitStringWorksOnBytes(t *testing.T) {
	checkSplit(t, "\u00e9\u00e8", "\xc3", []string{"", "\xa9", "\xa8"}, true)
	checkSplit(t, "a\xffb\xfe", "\xff", []string{"a", "b\xfe"}, true)
	checkSplit(t, "\ufffd", "\xff", []string{"\ufffd"}, true)
}

func TestSplitStringRejectsOtherSeparators(t *testing.T) {
	for _, sep := range []string{"", ",,", ", ", "ab", "\u00e9", "\ufffd", strings.Repeat(",", 5000)} {
		checkSplit(t, "a,,b", sep, nil, false)
		checkSplit(t, "", sep, nil, false)
	}
}

func TestSplitStringAtTheLimit(t *testing.T) {
	letters := strings.Repeat("x", impl.MaxString)
	checkSplit(t, letters, ",", []string{letters}, true)
	checkSplit(t, letters+"x", ",", nil, false)
	commas := strings.Repeat(",", impl.MaxString)
	checkSplit(t, commas, ",", make([]string, impl.MaxString+1), true)
	checkSplit(t, commas+",", ",", nil, false)
	checkSplit(t, strings.Repeat("y", 1<<20), ",", nil, false)
}

func TestJoinStrings(t *testing.T) {
	checkJoin(t, []string{"a", "", "b"}, ";", "a;;b", true)
	checkJoin(t, []string{""}, ";", "", true)
	checkJoin(t, []string{"", ""}, ";", ";", true)
	checkJoin(t, []string{"abc"}, ";", "abc", true)
	checkJoin(t, []string{"a,b", "c"}, ";", "a,b;c", true)
	checkJoin(t, []string{"\xc3", "\xa9"}, "\xff", "\xc3\xff\xa9", true)
}

func TestJoinStringsRejectsASeparatorInsideAnElement(t *testing.T) {
	for _, parts := range [][]string{
		{";"}, {"a;"}, {";a"}, {"a;b"}, {"a", "b;"}, {"a", ";", "b"}, {"a;b", "c"}, {"", "", ";"}, {"a;b;c", ""},
	} {
		checkJoin(t, parts, ";", "", false)
	}
	checkJoin(t, []string{"\u00e9"}, "\xc3", "", false)
	checkJoin(t, []string{"a", "x\x00"}, "\x00", "", false)
}

func TestJoinStringsRejectsInvalidArguments(t *testing.T) {
	checkJoin(t, nil, ";", "", false)
	checkJoin(t, []string{}, ";", "", false)
	for _, sep := range []string{"", ";;", "; ", "\u00e9"} {
		checkJoin(t, []string{"a", "b"}, sep, "", false)
		checkJoin(t, []string{"a"}, sep, "", false)
		checkJoin(t, nil, sep, "", false)
	}
}

func TestJoinStringsAtTheLimit(t *testing.T) {
	x := strings.Repeat("x", impl.MaxString)
	checkJoin(t, []string{x}, ";", x, true)
	checkJoin(t, []string{x + "x"}, ";", "", false)
	checkJoin(t, []string{x, ""}, ";", "", false)
	checkJoin(t, []string{x[1:], ""}, ";", x[1:]+";", true)
	checkJoin(t, []string{x[2:], "y"}, ";", x[2:]+";y", true)
	checkJoin(t, []string{x[2:], "yy"}, ";", "", false)
	checkJoin(t, make([]string, impl.MaxString+1), ";", strings.Repeat(";", impl.MaxString), true)
	checkJoin(t, make([]string, impl.MaxString+2), ";", "", false)
	checkJoin(t, make([]string, 1<<20), ";", "", false)
}

func TestSplitAndJoinAreInverse(t *testing.T) {
	for _, s := range stringsOver("a,;", 6) {
		for _, sep := range []string{",", ";", "b"} {
			parts, ok := impl.SplitString(s, sep)
			if !ok || len(parts) != strings.Count(s, sep)+1 {
				t.Fatalf("SplitString(%q, %q) = %q, %v", s, sep, parts, ok)
			}
			checkJoin(t, parts, sep, s, true)
			checkSplit(t, s, sep, strings.Split(s, sep), true)
		}
	}
}

func TestSplitAndJoinAreInverseForEverySeparator(t *testing.T) {
	r := rand.New(rand.NewSource(1))
	for c := range 256 {
		sep := string([]byte{byte(c)})
		for range 20 {
			s := randomBytes(r, r.Intn(300), byte(c))
			checkSplit(t, s, sep, strings.Split(s, sep), true)
			checkJoin(t, strings.Split(s, sep), sep, s, true)
		}
	}
}

// randomBytes returns n bytes, about a fourth of which are the frequent one.
func randomBytes(r *rand.Rand, n int, frequent byte) string {
	b := make([]byte, n)
	for i := range b {
		b[i] = byte(r.Intn(256))
		if r.Intn(4) == 0 {
			b[i] = frequent
		}
	}
	return string(b)
}

func TestJoinThenSplitReturnsTheElements(t *testing.T) {
	for _, parts := range [][]string{{""}, {"a"}, {"", ""}, {"a", "", "b"}, {",", ",,"}, {"", "x", "", ""}} {
		s, ok := impl.JoinStrings(parts, ";")
		if !ok {
			t.Errorf("JoinStrings(%q) failed", parts)
		}
		checkSplit(t, s, ";", parts, true)
	}
}

func TestJoinStringsLeavesItsArgument(t *testing.T) {
	all := []string{"a", "b", "behind the length;"}
	for _, sep := range []string{";", "", "b"} {
		impl.JoinStrings(all[:2], sep)
		if !slices.Equal(all, []string{"a", "b", "behind the length;"}) {
			t.Fatalf("changed to %q", all)
		}
	}
	checkJoin(t, all[:2], ";", "a;b", true)
}

func TestSplitStringReturnsNewMemory(t *testing.T) {
	first, _ := impl.SplitString("a,b", ",")
	first[0] = "changed"
	checkSplit(t, "a,b", ",", []string{"a", "b"}, true)
}

func TestLessString(t *testing.T) {
	// Strictly ascending, so that every pair is decided.
	ordered := []string{
		"", "\x00", "\x00\x00", "\x01", " ", "0", "10", "9", "A", "B", "Z", "Zz", "a", "a\x00", "aa", "ab", "b",
		"ba", "\x7f", "\x80", "\xc3", "\u00e9", "\xff", "\xff\x00",
	}
	for i, a := range ordered {
		for k, b := range ordered {
			if got := impl.LessString(a, b); got != (i < k) {
				t.Errorf("LessString(%q, %q) = %v", a, b, got)
			}
		}
	}
}

func TestLessStringOfLongStrings(t *testing.T) {
	long := strings.Repeat("z", 100000)
	if !impl.LessString(long, long+"a") || impl.LessString(long+"a", long) || impl.LessString(long, long) {
		t.Error("a long prefix")
	}
	if !impl.LessString("a"+long, "b") || impl.LessString("b", "a"+long) {
		t.Error("the first byte decides")
	}
}

func TestLessStringComparesBytes(t *testing.T) {
	all := stringsOver("a\x00\xff", 4)
	for _, a := range all {
		for _, b := range all {
			if got := impl.LessString(a, b); got != (bytes.Compare([]byte(a), []byte(b)) < 0) {
				t.Fatalf("LessString(%q, %q) = %v", a, b, got)
			}
		}
	}
}

// expectedChecksum reduces only once, at the end, unlike the program.
func expectedChecksum(s string) int {
	h := big.NewInt(7)
	for i := range len(s) {
		h.Mul(h, big.NewInt(41))
		h.Add(h, big.NewInt(int64(s[i])+1))
	}
	return int(h.Mod(h, big.NewInt(999979)).Int64())
}

func checkChecksum(t *testing.T, s string, want int, wantOK bool) {
	t.Helper()
	if got, ok := impl.Checksum(s); got != want || ok != wantOK {
		t.Errorf("Checksum(%.60q) = %d, %v; want %d, %v", s, got, ok, want, wantOK)
	}
}

func TestChecksum(t *testing.T) {
	checkChecksum(t, "", 7, true)
	checkChecksum(t, "a", 385, true)
	checkChecksum(t, "\x00", 288, true)
	checkChecksum(t, "\xff", 543, true)
	checkChecksum(t, "ab", 385*41+99, true)
	checkChecksum(t, "#", 323, true)
	r := rand.New(rand.NewSource(2))
	for n := range 200 {
		s := randomBytes(r, n, 'e')
		checkChecksum(t, s, expectedChecksum(s), true)
	}
}

func TestChecksumAtTheLimit(t *testing.T) {
	for _, c := range []string{"\x00", "x", "\xff"} {
		s := strings.Repeat(c, impl.MaxString)
		checkChecksum(t, s, expectedChecksum(s), true)
		checkChecksum(t, s+c, 0, false)
	}
	checkChecksum(t, strings.Repeat("x", 1<<20), 0, false)
}

func TestAppendChecksum(t *testing.T) {
	checkAppend(t, "a", "a#385", true)
	checkAppend(t, "", "#7", true)
	checkAppend(t, "ab", "ab#15884", true)
	checkAppend(t, "\xff\n", "\xff\n#"+strconv.Itoa(543*41+11), true)
	for _, s := range []string{"#", "a#", "#a", "a#b", "a#385", "##"} {
		checkAppend(t, s, "", false)
	}
}

// textWithSum returns a text of n bytes whose checksum has the given number of digits.
func textWithSum(t *testing.T, n, digits int) string {
	t.Helper()
	r := rand.New(rand.NewSource(5))
	for range 10000 {
		s := strings.Repeat("x", n-8) + strings.ReplaceAll(randomBytes(r, 8, 'x'), "#", "+")
		if sum, ok := impl.Checksum(s); ok && len(strconv.Itoa(sum)) == digits {
			return s
		}
	}
	t.Fatal("no text of", n, "bytes with a checksum of", digits, "digits")
	return ""
}

// The limit holds for the result, so the longest text depends on the digits of its checksum.
func TestAppendChecksumAtTheLimit(t *testing.T) {
	for digits := 4; digits <= 6; digits++ {
		fits := textWithSum(t, impl.MaxString-1-digits, digits)
		sealed := fits + "#" + strconv.Itoa(expectedChecksum(fits))
		if len(sealed) != impl.MaxString {
			t.Fatal("length", len(sealed))
		}
		checkAppend(t, fits, sealed, true)
		checkVerify(t, sealed, fits, true)
		long := textWithSum(t, impl.MaxString-digits, digits)
		checkAppend(t, long, "", false)
		checkVerify(t, long+"#"+strconv.Itoa(expectedChecksum(long)), "", false)
	}
	for _, n := range []int{impl.MaxString, impl.MaxString + 1, 1 << 20} {
		checkAppend(t, strings.Repeat("x", n), "", false)
	}
}

func TestVerifyChecksum(t *testing.T) {
	checkVerify(t, "a#385", "a", true)
	checkVerify(t, "#7", "", true)
	checkVerify(t, "ab#15884", "ab", true)
}

func TestVerifyChecksumRejectsEveryOtherString(t *testing.T) {
	for _, s := range []string{
		"", "#", "##", "a", "a#", "a385", "385", "7", "#7#", "##7", "#07", "#+7", "#-7", "#8", "#999986",
		"a#384", "a#386", "a#0385", "a#+385", "a#-385", "a# 385", "a#385 ", "a#385\n", "a#385#", "a##385",
		"a#385#1", "#a#385", "b#385", "#385", "a#38", "a#3850", "a#1000364", "a#85", "a#18446744073709552001",
		" a#385", "a#385x", "a#x", "a#385\x00", strings.Repeat("#", 5000), longDigits, "a#" + longDigits,
		strings.Repeat("x", 1<<20), strings.Repeat("x", impl.MaxString), strings.Repeat("x", impl.MaxString+1) + "#7",
	} {
		checkVerify(t, s, "", false)
	}
}

func TestVerifyChecksumInvertsAppendChecksum(t *testing.T) {
	r := rand.New(rand.NewSource(3))
	for n := range 500 {
		s := strings.ReplaceAll(randomBytes(r, n, ' '), "#", "+")
		sealed := s + "#" + strconv.Itoa(expectedChecksum(s))
		checkAppend(t, s, sealed, true)
		checkVerify(t, sealed, s, true)
	}
}

func TestEverySingleChangedByteIsDetected(t *testing.T) {
	r := rand.New(rand.NewSource(4))
	texts := []string{"", "a", "ab", "0 press KAT>-0+cat", "00000000", "\x00\x00\x00", "\xff\xff\xff", "385"}
	for n := range 40 {
		texts = append(texts, strings.ReplaceAll(randomBytes(r, n, '1'), "#", "+"))
	}
	for _, s := range texts {
		sealed, ok := impl.AppendChecksum(s)
		if !ok {
			t.Fatalf("AppendChecksum(%q) failed", s)
		}
		for i := range len(sealed) {
			for c := range 256 {
				if byte(c) != sealed[i] {
					checkVerify(t, sealed[:i]+string([]byte{byte(c)})+sealed[i+1:], "", false)
				}
			}
		}
	}
}

// A change far from the end is multiplied by a high power of 41, which must not make it vanish.
func TestChangedByteOfALongStringIsDetected(t *testing.T) {
	sealed, ok := impl.AppendChecksum(textWithSum(t, impl.MaxString-7, 6))
	if !ok {
		t.Fatal("AppendChecksum failed")
	}
	for i := range len(sealed) {
		for _, change := range []byte{1, 2, 128, 255} {
			changed := sealed[:i] + string([]byte{sealed[i] ^ change}) + sealed[i+1:]
			checkVerify(t, changed, "", false)
		}
	}
}

func TestShortenedAndLengthenedChecksumsAreRejected(t *testing.T) {
	sealed, _ := impl.AppendChecksum("0 count>3")
	for i := range len(sealed) {
		checkVerify(t, sealed[:i], "", false)
		checkVerify(t, sealed[i+1:], "", false)
		checkVerify(t, sealed+sealed[i:i+1], "", false)
	}
}
