package tests

import (
	"fmt"
	"math"
	"math/rand"
	"regexp"
	"strconv"
	"strings"
	"testing"

	"loop.example/g00882/impl"
)

// Promise 13: the least edit leads to the target and none is smaller; edits compose and can be
// inverted. Promise 26, for chapter 13: every function returns for all arguments and modifies none
// of them.

var noEdit impl.Edit

func edit(back int, text string) impl.Edit { return impl.Edit{Back: back, Text: text} }

func sizeOf(e impl.Edit) int { return e.Back + len(e.Text) }

// writtenEdit has the one notation of every Back with at most four digits.
var writtenEdit = regexp.MustCompile(`^-(0|[1-9][0-9]{0,3})\+([ -~]*)$`)

func expectedIsScreen(s string) bool { return len(s) <= 2000 && printable.MatchString(s) }

func expectedIsEdit(e impl.Edit) bool {
	return !(e.Back < 0 || e.Back > 2000) && expectedIsScreen(e.Text)
}

func editOrNone(e impl.Edit, ok bool) (impl.Edit, bool) {
	if !ok || !expectedIsEdit(e) {
		return noEdit, false
	}
	return e, true
}

// expectedLeast tries the common prefixes from the longest one on.
func expectedLeast(from, to string) (impl.Edit, bool) {
	if !expectedIsScreen(from) || !expectedIsScreen(to) {
		return noEdit, false
	}
	n := len(from)
	for !strings.HasPrefix(to, from[:n]) {
		n--
	}
	return edit(len(from[n:]), strings.TrimPrefix(to, from[:n])), true
}

func expectedApplied(screen string, e impl.Edit) (string, bool) {
	if !expectedIsScreen(screen) || !expectedIsEdit(e) || len(screen) < e.Back {
		return "", false
	}
	result := strings.TrimSuffix(screen, screen[len(screen)-e.Back:]) + e.Text
	if len(result) > 2000 {
		return "", false
	}
	return result, true
}

// expectedBoth lets the second edit delete byte by byte: from the text of the first one while there
// is any.
func expectedBoth(first, second impl.Edit) (impl.Edit, bool) {
	if !expectedIsEdit(first) || !expectedIsEdit(second) {
		return noEdit, false
	}
	back, text := first.Back, first.Text
	for range second.Back {
		if text == "" {
			back++
		} else {
			text = text[:len(text)-1]
		}
	}
	return editOrNone(edit(back, text+second.Text), true)
}

func expectedInverse(screen string, e impl.Edit) (impl.Edit, bool) {
	after, ok := expectedApplied(screen, e)
	if !ok {
		return noEdit, false
	}
	kept := len(after) - len(e.Text)
	return edit(len(after[kept:]), screen[kept:]), true
}

func expectedFormatted(e impl.Edit) (string, bool) {
	if !expectedIsEdit(e) {
		return "", false
	}
	return fmt.Sprintf("-%d+%s", e.Back, e.Text), true
}

func expectedRead(s string) (impl.Edit, bool) {
	parts := writtenEdit.FindStringSubmatch(s)
	if parts == nil {
		return noEdit, false
	}
	back, err := strconv.Atoi(parts[1])
	return editOrNone(edit(back, parts[2]), err == nil)
}

// shownEdit spares the reader most of the longest texts.
func shownEdit(e impl.Edit) string {
	return fmt.Sprintf("{%d, %d bytes %.40q}", e.Back, len(e.Text), e.Text)
}

func checkIsEdit(t *testing.T, e impl.Edit, want bool) {
	t.Helper()
	if got := impl.IsValidEdit(e); got != want {
		t.Errorf("IsValidEdit(%s) = %v", shownEdit(e), got)
	}
}

func checkLeast(t *testing.T, from, to string, want impl.Edit, wantOK bool) {
	t.Helper()
	if got, ok := impl.LeastEdit(from, to); got != want || ok != wantOK {
		t.Errorf("LeastEdit(%.40q, %.40q) = %s, %v; want %s, %v", from, to, shownEdit(got), ok, shownEdit(want), wantOK)
	}
}

func checkEdited(t *testing.T, screen string, e impl.Edit, want string, wantOK bool) {
	t.Helper()
	if got, ok := impl.ApplyEdit(screen, e); got != want || ok != wantOK {
		t.Errorf("ApplyEdit(%.40q, %s) = %.40q, %v; want %.40q, %v", screen, shownEdit(e), got, ok, want, wantOK)
	}
}

func checkBoth(t *testing.T, first, second, want impl.Edit, wantOK bool) {
	t.Helper()
	if got, ok := impl.ComposeEdits(first, second); got != want || ok != wantOK {
		t.Errorf("ComposeEdits(%s, %s) = %s, %v; want %s, %v", shownEdit(first), shownEdit(second), shownEdit(got), ok, shownEdit(want), wantOK)
	}
	if got, ok := expectedBoth(first, second); got != want || ok != wantOK {
		t.Errorf("the second reading of %s, %s differs: %s, %v", shownEdit(first), shownEdit(second), shownEdit(got), ok)
	}
}

func checkRestoring(t *testing.T, screen string, e, want impl.Edit, wantOK bool) {
	t.Helper()
	if got, ok := impl.InvertEdit(screen, e); got != want || ok != wantOK {
		t.Errorf("InvertEdit(%.40q, %s) = %s, %v; want %s, %v", screen, shownEdit(e), shownEdit(got), ok, shownEdit(want), wantOK)
	}
}

func checkWrittenEdit(t *testing.T, e impl.Edit, want string, wantOK bool) {
	t.Helper()
	if got, ok := impl.FormatEdit(e); got != want || ok != wantOK {
		t.Errorf("FormatEdit(%s) = %.40q, %v; want %.40q, %v", shownEdit(e), got, ok, want, wantOK)
	}
}

func checkReadEdit(t *testing.T, s string, want impl.Edit, wantOK bool) {
	t.Helper()
	if got, ok := impl.ParseEdit(s); got != want || ok != wantOK {
		t.Errorf("ParseEdit(%d bytes %.40q) = %s, %v; want %s, %v", len(s), s, shownEdit(got), ok, shownEdit(want), wantOK)
	}
	if got, ok := expectedRead(s); got != want || ok != wantOK {
		t.Errorf("the second reading of %.40q differs: %s, %v", s, shownEdit(got), ok)
	}
}

// checkEdit does with e alone what the second reading does.
func checkEdit(t *testing.T, e impl.Edit, want bool) {
	t.Helper()
	checkIsEdit(t, e, want)
	if expectedIsEdit(e) != want {
		t.Errorf("the second reading of %s differs", shownEdit(e))
	}
	s, ok := expectedFormatted(e)
	checkWrittenEdit(t, e, s, ok)
	if ok {
		checkReadEdit(t, s, e, true)
	}
}

// checkTarget expects the least edit to lead to its target, and its inverse back.
func checkTarget(t *testing.T, from, to string) impl.Edit {
	t.Helper()
	want, wantOK := expectedLeast(from, to)
	checkLeast(t, from, to, want, wantOK)
	if wantOK {
		checkEdit(t, want, true)
		checkEdited(t, from, want, to, true)
		checkUndone(t, from, want)
	}
	return want
}

// checkUndone applies e, and then its inverse if e can be applied.
func checkUndone(t *testing.T, screen string, e impl.Edit) {
	t.Helper()
	after, ok := expectedApplied(screen, e)
	checkEdited(t, screen, e, after, ok)
	back, backOK := expectedInverse(screen, e)
	checkRestoring(t, screen, e, back, backOK)
	if ok {
		checkEdited(t, after, back, screen, true)
		checkRestoring(t, after, back, e, true)
		checkBoth(t, e, back, edit(e.Back, back.Text), true)
	}
}

// checkInTurn expects the composition to do what the two edits do one after the other, and to be
// undone by the composition of their inverses.
func checkInTurn(t *testing.T, screen string, first, second impl.Edit) bool {
	t.Helper()
	both, bothOK := expectedBoth(first, second)
	checkBoth(t, first, second, both, bothOK)
	between, ok := impl.ApplyEdit(screen, first)
	if !ok {
		return false
	}
	after, ok := impl.ApplyEdit(between, second)
	if !ok {
		return false
	}
	if !bothOK {
		t.Errorf("%.40q: %s and %s have no composition", screen, shownEdit(first), shownEdit(second))
	}
	checkEdited(t, screen, both, after, true)
	undoFirst, _ := impl.InvertEdit(screen, first)
	undoSecond, _ := impl.InvertEdit(between, second)
	undo, ok := impl.ComposeEdits(undoSecond, undoFirst)
	checkRestoring(t, screen, both, undo, ok)
	return ok
}

func TestConstantOfChapter13(t *testing.T) {
	if impl.MaxScreen != 2000 {
		t.Error("screen", impl.MaxScreen)
	}
}

func TestTheExamplesOfEdits(t *testing.T) {
	checkLeast(t, "the cat", "the cats", edit(0, "s"), true)
	checkLeast(t, "make", "making", edit(1, "ing"), true)
	checkWrittenEdit(t, edit(1, "ing"), "-1+ing", true)
	checkReadEdit(t, "-1+ing", edit(1, "ing"), true)
	checkEdited(t, "make", edit(1, "ing"), "making", true)
	checkRestoring(t, "make", edit(1, "ing"), edit(3, "e"), true)
	checkEdited(t, "making", edit(3, "e"), "make", true)
}

func TestLeastEdits(t *testing.T) {
	for _, x := range []struct {
		from, to string
		want     impl.Edit
	}{
		{"", "", noEdit}, {"a", "a", noEdit}, {"the cat", "the cat", noEdit}, {" ", " ", noEdit},
		{"", "a", edit(0, "a")}, {"", "the cat", edit(0, "the cat")}, {"a", "", edit(1, "")}, {"the cat", "", edit(7, "")},
		{"the", "the cat", edit(0, " cat")}, {"the cat", "the", edit(4, "")}, {"a", "aa", edit(0, "a")}, {"aaa", "a", edit(2, "")},
		{"cat", "hat", edit(3, "hat")}, {"a", "b", edit(1, "b")}, {"cat", "Cat", edit(3, "Cat")}, {"cat", "at", edit(3, "at")}, {"at", "cat", edit(2, "cat")},
		{"a cat", "the cat", edit(5, "the cat")}, {"the cat", "the hat", edit(3, "hat")}, {"the cats", "the hats", edit(4, "hats")}, {"abcab", "abab", edit(3, "ab")},
		{"ab", "ba", edit(2, "ba")}, {"abab", "ab", edit(2, "")}, {"ab", "abab", edit(0, "ab")}, {"the cat ", "the cat", edit(1, "")}, {"the  cat", "the cat", edit(4, "cat")},
		{"so undoing.", "so undoing. A", edit(0, " A")}, {"happy", "happiness", edit(1, "iness")}, {"~", " ", edit(1, " ")},
	} {
		checkLeast(t, x.from, x.to, x.want, true)
		checkTarget(t, x.from, x.to)
	}
}

// All pairs of short screens: the edit is not compared with a prefix, but with all edits that lead
// to the target too.
func TestNoEditIsSmallerThanTheLeast(t *testing.T) {
	screens := stringsOver("ab", 4)
	texts := stringsOver("ab", 5)
	leading := 0
	for _, from := range screens {
		for _, to := range screens {
			least := checkTarget(t, from, to)
			for back := range len(from) + 2 {
				for _, text := range texts {
					e := edit(back, text)
					if got, ok := impl.ApplyEdit(from, e); !ok || got != to {
						continue
					}
					leading++
					if sizeOf(e) < sizeOf(least) || sizeOf(e) == sizeOf(least) && e != least {
						t.Errorf("from %q to %q: %s instead of %s", from, to, shownEdit(e), shownEdit(least))
					}
				}
			}
		}
	}
	if leading < len(screens)*len(screens) {
		t.Error("not every screen is reached", leading)
	}
}

func TestLongScreens(t *testing.T) {
	full, more := strings.Repeat("x", 2000), strings.Repeat("x", 2001)
	for _, x := range []struct {
		from, to string
		want     impl.Edit
	}{
		{full, full, noEdit}, {full, "", edit(2000, "")}, {"", full, edit(0, full)}, {full, full[:1999], edit(1, "")}, {full[:1999], full, edit(0, "x")},
		{full, full[:1999] + "y", edit(1, "y")}, {full, "y" + full[:1999], edit(2000, "y"+full[:1999])}, {"y" + full[:1999], full, edit(2000, full)},
		{full[:1000] + "y" + full[:999], full, edit(1000, full[:1000])}, {full[:255], full[:256], edit(0, "x")}, {full[:256], full[:255], edit(1, "")},
	} {
		checkLeast(t, x.from, x.to, x.want, true)
		checkTarget(t, x.from, x.to)
	}
	for _, s := range []string{more, full + "y", "y" + full, strings.Repeat("x", 4000), strings.Repeat("x", 1<<17)} {
		for _, good := range []string{"", "x", full} {
			checkLeast(t, s, good, noEdit, false)
			checkLeast(t, good, s, noEdit, false)
		}
		checkLeast(t, s, s, noEdit, false)
		checkEdited(t, s, noEdit, "", false)
		checkEdited(t, s, edit(1, ""), "", false)
		checkEdited(t, s, edit(2000, ""), "", false)
		checkRestoring(t, s, noEdit, noEdit, false)
		checkRestoring(t, s, edit(2000, "a"), noEdit, false)
	}
}

// Every byte but 32 to 126 spoils a screen and the Text of an edit, wherever it stands.
func TestEveryByteOfAScreen(t *testing.T) {
	long := strings.Repeat("x", 1999)
	for c := range 256 {
		b := string([]byte{byte(c)})
		want := c >= 32 && c <= 126
		for _, s := range []string{b, b + "so", "s" + b + "o", "so" + b, b + long, long + b} {
			checkEdit(t, edit(0, s), want)
			checkEdit(t, edit(2000, s), want)
			if expectedIsScreen(s) != want {
				t.Errorf("the second reading of %.40q differs", s)
			}
			checkTarget(t, s, s)
			checkTarget(t, s, "so")
			checkTarget(t, "so", s)
			checkUndone(t, s, noEdit)
			checkUndone(t, s, edit(1, ""))
			checkUndone(t, "so", edit(2, s))
			checkInTurn(t, "so", edit(1, s), edit(1, ""))
			checkInTurn(t, "so", edit(1, ""), edit(0, s))
			if !want {
				checkReadEdit(t, "-0+"+s, noEdit, false)
				checkNoScreen(t, s)
			}
		}
	}
}

// checkNoScreen passes s, which is no screen, alone as each argument that it can be.
func checkNoScreen(t *testing.T, s string) {
	t.Helper()
	for _, good := range []string{"", "so run"} {
		checkLeast(t, s, good, noEdit, false)
		checkLeast(t, good, s, noEdit, false)
		for _, e := range []impl.Edit{noEdit, edit(0, "a"), edit(1, ""), edit(min(len(s), 2000), "ab")} {
			checkEdited(t, s, e, "", false)
			checkRestoring(t, s, e, noEdit, false)
		}
	}
	checkLeast(t, s, s, noEdit, false)
	checkNoEdit(t, edit(0, s))
	checkNoEdit(t, edit(3, s))
}

// checkNoEdit passes e, which is no edit, alone as each argument that it can be.
func checkNoEdit(t *testing.T, e impl.Edit) {
	t.Helper()
	checkEdit(t, e, false)
	for _, screen := range []string{"", "so run", strings.Repeat("x", 2000)} {
		checkEdited(t, screen, e, "", false)
		checkRestoring(t, screen, e, noEdit, false)
	}
	for _, good := range []impl.Edit{noEdit, edit(0, "ab"), edit(1, ""), edit(2000, ""), edit(2, strings.Repeat("x", 2000))} {
		checkBoth(t, e, good, noEdit, false)
		checkBoth(t, good, e, noEdit, false)
	}
	checkBoth(t, e, e, noEdit, false)
}

func TestInvalidScreens(t *testing.T) {
	for _, s := range []string{
		"\x1f", "\x7f", "a\nb", "a\n", "\n", "a\tb", "\r", "a\x00", "\u00e9", "\u2019", "\U0001f600", "\ufffd", "so\xff", "\x80",
		strings.Repeat("x", 2001), strings.Repeat("x", 1999) + "\x1f", "\x7f" + strings.Repeat("x", 1999), strings.Repeat("x", 1<<17),
	} {
		checkNoScreen(t, s)
	}
}

var notBacks = []int{-1, -2, 2001, 2002, 4000, -2000, 1 << 16, 1 << 31, 1 << 32, 1<<32 + 1, -1 << 31, -1 << 32, math.MaxInt, math.MaxInt - 1, math.MinInt, math.MinInt + 1}

func TestInvalidEdits(t *testing.T) {
	for _, back := range notBacks {
		checkNoEdit(t, edit(back, ""))
		checkNoEdit(t, edit(back, "a"))
		checkNoEdit(t, edit(back, strings.Repeat("x", 2000)))
		checkNoEdit(t, edit(back, "\n"))
	}
	for _, back := range []int{0, 1, 2000} {
		checkNoEdit(t, edit(back, strings.Repeat("x", 2001)))
		checkNoEdit(t, edit(back, "a\x1f"))
		checkNoEdit(t, edit(back, "\x7fa"))
	}
}

func TestValidEdits(t *testing.T) {
	for back := -3; back <= 2003; back++ {
		checkEdit(t, edit(back, ""), back >= 0 && back <= 2000)
		checkEdit(t, edit(back, "a"), back >= 0 && back <= 2000)
	}
	for _, n := range []int{0, 1, 255, 256, 1000, 1999, 2000} {
		for _, back := range []int{0, 1, 1999, 2000} {
			checkEdit(t, edit(back, strings.Repeat("x", n)), true)
		}
	}
	checkEdit(t, noEdit, true)
}

func TestTheBoundsOfBack(t *testing.T) {
	for _, screen := range []string{"", "a", "so", "so run", strings.Repeat("ab", 500), strings.Repeat("x", 1999), strings.Repeat("x", 2000)} {
		for _, text := range []string{"", "a", "so"} {
			for _, back := range []int{-1, 0, 1, len(screen) - 1, len(screen), len(screen) + 1, 1999, 2000, 2001} {
				checkUndone(t, screen, edit(back, text))
			}
		}
		checkEdited(t, screen, edit(len(screen), ""), "", true)
		checkEdited(t, screen, edit(len(screen), "so"), "so", true)
		checkEdited(t, screen, edit(len(screen)+1, "so"), "", false)
		checkRestoring(t, screen, edit(len(screen), "so"), edit(2, screen), true)
		checkRestoring(t, screen, edit(len(screen)+1, "so"), noEdit, false)
		checkEdited(t, screen, edit(-1, "so"), "", false)
		checkRestoring(t, screen, edit(-1, "so"), noEdit, false)
	}
}

func TestEditing(t *testing.T) {
	for _, x := range []struct {
		screen string
		e      impl.Edit
		want   string
		back   impl.Edit
	}{
		{"", noEdit, "", noEdit}, {"so", noEdit, "so", noEdit}, {"", edit(0, "so"), "so", edit(2, "")}, {"so", edit(2, ""), "", edit(0, "so")},
		{"so run", edit(3, ""), "so ", edit(0, "run")}, {"so run", edit(3, "walk"), "so walk", edit(4, "run")}, {"so run", edit(0, "s"), "so runs", edit(1, "")},
		{"so run", edit(6, "a"), "a", edit(1, "so run")}, {"so run", edit(3, "run"), "so run", edit(3, "run")}, {"abc", edit(1, "xyz"), "abxyz", edit(3, "c")},
		{"abc", edit(2, "x"), "ax", edit(1, "bc")}, {" ~", edit(1, " "), "  ", edit(1, "~")},
	} {
		checkEdited(t, x.screen, x.e, x.want, true)
		checkRestoring(t, x.screen, x.e, x.back, true)
		checkUndone(t, x.screen, x.e)
	}
}

// The result may have 2000 bytes, and what Back deletes makes room for Text.
func TestTheLimitOfTheResult(t *testing.T) {
	for _, n := range []int{0, 1, 2, 999, 1000, 1001, 1999, 2000} {
		screen := strings.Repeat("ab", 1000)[:n]
		for _, back := range []int{0, 1, 2, n / 2, n - 1, n} {
			if back < 0 || back > n {
				continue
			}
			room := 2000 - n + back
			fits, tooLong := strings.Repeat("x", room), strings.Repeat("x", room+1)
			checkEdited(t, screen, edit(back, fits), screen[:n-back]+fits, true)
			checkRestoring(t, screen, edit(back, fits), edit(room, screen[n-back:]), true)
			checkUndone(t, screen, edit(back, fits))
			checkEdited(t, screen, edit(back, tooLong), "", false)
			checkRestoring(t, screen, edit(back, tooLong), noEdit, false)
		}
	}
}

func TestEditsThatDeleteInsertedText(t *testing.T) {
	for _, x := range []struct{ first, second, want impl.Edit }{
		{edit(1, "ing"), edit(0, ""), edit(1, "ing")}, {edit(1, "ing"), edit(0, "s"), edit(1, "ings")},
		{edit(1, "ing"), edit(1, ""), edit(1, "in")}, {edit(1, "ing"), edit(2, "s"), edit(1, "is")},
		{edit(1, "ing"), edit(3, ""), edit(1, "")}, {edit(1, "ing"), edit(3, "er"), edit(1, "er")},
		{edit(1, "ing"), edit(4, ""), edit(2, "")}, {edit(1, "ing"), edit(4, "er"), edit(2, "er")}, {edit(1, "ing"), edit(7, "er"), edit(5, "er")},
		{edit(0, ""), edit(0, ""), edit(0, "")}, {edit(0, ""), edit(2, "a"), edit(2, "a")}, {edit(2, ""), edit(0, "a"), edit(2, "a")}, {edit(2, ""), edit(3, ""), edit(5, "")},
		{edit(0, "a"), edit(1, ""), noEdit}, {edit(0, "a"), edit(1, "a"), edit(0, "a")}, {edit(0, "a"), edit(2, "b"), edit(1, "b")},
		{edit(3, "so run"), edit(3, "walk"), edit(3, "so walk")}, {edit(0, "ab"), edit(1, "c"), edit(0, "ac")},
	} {
		checkBoth(t, x.first, x.second, x.want, true)
		if !checkInTurn(t, "the cat is so happy", x.first, x.second) {
			t.Error("not what the test needs", x)
		}
	}
}

// A composition does not keep a least edit the least: it may insert again what it deletes.
func TestCompositionsThatAreNotTheLeast(t *testing.T) {
	checkBoth(t, edit(1, ""), edit(0, "e"), edit(1, "e"), true)
	checkEdited(t, "make", edit(1, "e"), "make", true)
	checkLeast(t, "make", "make", noEdit, true)
}

func TestCompositionsBeyondTheLimits(t *testing.T) {
	full := strings.Repeat("x", 2000)
	for _, x := range []struct {
		first, second, want impl.Edit
		wantOK              bool
	}{
		{edit(2000, ""), edit(0, ""), edit(2000, ""), true}, {edit(2000, ""), edit(1, ""), noEdit, false}, {edit(1999, ""), edit(1, ""), edit(2000, ""), true},
		{edit(1, ""), edit(2000, ""), noEdit, false}, {edit(0, ""), edit(2000, ""), edit(2000, ""), true}, {edit(1000, ""), edit(1000, "a"), edit(2000, "a"), true},
		{edit(1000, ""), edit(1001, "a"), noEdit, false}, {edit(2000, ""), edit(2000, ""), noEdit, false}, {edit(2000, "a"), edit(1, ""), edit(2000, ""), true},
		{edit(2000, "a"), edit(2, ""), noEdit, false}, {edit(2000, full), edit(2000, full), edit(2000, full), true}, {edit(1999, "a"), edit(2, "b"), edit(2000, "b"), true},
		{edit(1, full), edit(2000, ""), edit(1, ""), true}, {edit(1, full[:1999]), edit(2000, "b"), edit(2, "b"), true}, {edit(2000, full[:1999]), edit(2000, "b"), noEdit, false},
		{edit(0, full), edit(0, ""), edit(0, full), true}, {edit(0, full), edit(0, "y"), noEdit, false}, {edit(0, full), edit(1, "y"), edit(0, full[:1999]+"y"), true},
		{edit(0, full), edit(1, "yz"), noEdit, false}, {edit(0, full[:1999]), edit(0, "y"), edit(0, full[:1999]+"y"), true}, {edit(0, "y"), edit(0, full[:1999]), edit(0, "y"+full[:1999]), true},
		{edit(0, "y"), edit(0, full), noEdit, false}, {edit(0, "y"), edit(1, full), edit(0, full), true}, {edit(0, "y"), edit(2, full), edit(1, full), true},
		{edit(0, full[:1000]), edit(0, full[:1001]), noEdit, false}, {edit(0, full[:1000]), edit(0, full[:1000]), edit(0, full), true}, {edit(0, full), edit(0, full), noEdit, false},
	} {
		checkBoth(t, x.first, x.second, x.want, x.wantOK)
	}
}

// All pairs of small edits after one another, on all short screens.
func TestAllSmallEdits(t *testing.T) {
	var edits []impl.Edit
	for back := range 4 {
		for _, text := range stringsOver("ab", 2) {
			edits = append(edits, edit(back, text))
		}
	}
	composed := 0
	for _, screen := range stringsOver("ab", 3) {
		for _, first := range edits {
			checkUndone(t, screen, first)
			for _, second := range edits {
				if checkInTurn(t, screen, first, second) {
					composed++
				}
			}
		}
	}
	if composed < 2000 {
		t.Error("too few edits can be applied", composed)
	}
}

// Three edits have the same composition in whichever order two of them are composed first.
func TestCompositionIsAssociative(t *testing.T) {
	var edits []impl.Edit
	for _, back := range []int{0, 1, 2, 4} {
		for _, text := range []string{"", "a", "bc", "def"} {
			edits = append(edits, edit(back, text))
		}
	}
	for _, first := range edits {
		checkBoth(t, first, noEdit, first, true)
		checkBoth(t, noEdit, first, first, true)
		for _, second := range edits {
			for _, third := range edits {
				left, _ := impl.ComposeEdits(first, second)
				right, _ := impl.ComposeEdits(second, third)
				want, ok := impl.ComposeEdits(first, right)
				checkBoth(t, left, third, want, ok)
			}
		}
	}
}

func TestEditNotation(t *testing.T) {
	for s, want := range map[string]impl.Edit{
		"-0+": noEdit, "-0+a": edit(0, "a"), "-1+": edit(1, ""), "-9+x": edit(9, "x"), "-10+x": edit(10, "x"), "-12+a+b": edit(12, "a+b"), "-2000+": edit(2000, ""), "-1999+~": edit(1999, "~"),
		"-1+1": edit(1, "1"), "-1+0": edit(1, "0"), "-1+01": edit(1, "01"), "-1+-1": edit(1, "-1"), "-1+-": edit(1, "-"), "-1++": edit(1, "+"), "-1++1": edit(1, "+1"), "-1+-1+a": edit(1, "-1+a"),
		"-0+-0+": edit(0, "-0+"), "-1+ ": edit(1, " "), "-1+ a": edit(1, " a"), "-100++++": edit(100, "+++"), "-1+the cat": edit(1, "the cat"),
		"-0+" + strings.Repeat("x", 2000): edit(0, strings.Repeat("x", 2000)), "-2000+" + strings.Repeat("+", 2000): edit(2000, strings.Repeat("+", 2000)),
	} {
		checkReadEdit(t, s, want, true)
		checkWrittenEdit(t, want, s, true)
	}
}

func TestNotationsOfNoEdit(t *testing.T) {
	for _, s := range []string{
		"", "-", "+", "-+", "+-", "-1", "1", "1+", "1+a", "a", "ing", "-a", "-a+", "-1a+", "-+a", "+a", "+1+a", "-1-a", "1-a", "-1 +a", "- 1+a", " -1+a", "-1",
		"--1+a", "--0+a", "--+a", "-+1+a", "++1+a", "-01+a", "-00+a", "-001+", "-0001+a", "-0x1+a", "-1e1+", "-1_0+", "-1.0+a", "-1,0+a", "+1-a", "=1+a", "-\xd9\xa1+a",
		"-2001+", "-2001+a", "-2002+a", "-9999+", "-10000+", "-20000+", "-999999+", "-1000000+", "-4294967296+", "-4294967297+a", "-9223372036854775808+", "-18446744073709551616+", "-18446744073709551617+a",
		"-1+a\n", "-1+\x1f", "-1+\x7f", "-1+\u00e9", "-1\n+a", "\n-1+a", "-1+a\x00", "-0+" + strings.Repeat("x", 2001), "-1+" + strings.Repeat("x", 1<<17),
		"-" + strings.Repeat("0", 100000) + "+a", "-" + strings.Repeat("9", 100000) + "+a", strings.Repeat("-", 100000) + "1+a", "-1" + strings.Repeat("0", 100000) + "+", strings.Repeat("-1", 1000) + "+",
	} {
		checkReadEdit(t, s, noEdit, false)
	}
}

func TestAllShortEditNotations(t *testing.T) {
	valid := 0
	for _, s := range stringsOver("-+012a", 6) {
		want, ok := expectedRead(s)
		checkReadEdit(t, s, want, ok)
		if ok {
			valid++
			checkWrittenEdit(t, want, s, true)
		}
	}
	if valid < 400 {
		t.Error("too few notations are valid", valid)
	}
}

// Any byte in place of, before and behind each byte of a notation.
func TestEveryByteOfAnEditNotation(t *testing.T) {
	for _, s := range []string{"-1+ing", "-0+", "-20+a+b", "-2000+x"} {
		for i := range len(s) + 1 {
			for c := range 256 {
				b := string([]byte{byte(c)})
				inserted := s[:i] + b + s[i:]
				want, ok := expectedRead(inserted)
				checkReadEdit(t, inserted, want, ok)
				if i < len(s) {
					changed := s[:i] + b + s[i+1:]
					want, ok := expectedRead(changed)
					checkReadEdit(t, changed, want, ok)
				}
			}
			if i < len(s) {
				want, ok := expectedRead(s[:i] + s[i+1:])
				checkReadEdit(t, s[:i]+s[i+1:], want, ok)
			}
		}
	}
}

func randomScreen(r *rand.Rand, most int) string {
	b := make([]byte, r.Intn(most+1))
	for i := range b {
		b[i] = byte(32 + r.Intn(95))
		if r.Intn(3) > 0 {
			b[i] = "ab "[r.Intn(3)]
		}
	}
	return string(b)
}

func randomEdit(r *rand.Rand, back, text int) impl.Edit {
	return edit(r.Intn(back+1), randomScreen(r, text))
}

func TestRandomEdits(t *testing.T) {
	r := rand.New(rand.NewSource(13))
	inTurn, tooLong, partly := 0, 0, 0
	for i := range 6000 {
		most := []int{8, 40, 2000}[i%3]
		from := randomScreen(r, most)
		first, second := randomEdit(r, most/2, most/2), randomEdit(r, most/2, most/2)
		to := from[:r.Intn(len(from)+1)] + randomScreen(r, most)
		to = to[:min(len(to), 2000)]
		checkTarget(t, from, to)
		checkUndone(t, from, first)
		if checkInTurn(t, from, first, second) {
			inTurn++
		}
		large, larger := randomEdit(r, most, most), randomEdit(r, most, most)
		checkInTurn(t, from, large, larger)
		if _, ok := impl.ComposeEdits(large, larger); !ok {
			tooLong++
		}
		if 0 < second.Back && second.Back < len(first.Text) {
			partly++
		}
		checkEdit(t, first, true)
	}
	if inTurn < 1000 || tooLong < 100 || partly < 1000 {
		t.Error("the edits do not try everything", inTurn, tooLong, partly)
	}
}

// The screen after many edits is led back by their inverses, and by the one of their composition.
func TestManyEditsAreUndone(t *testing.T) {
	r := rand.New(rand.NewSource(131))
	for range 200 {
		start := randomScreen(r, 60)
		screens, undo, all := []string{start}, []impl.Edit{}, noEdit
		for len(undo) < 30 {
			now := screens[len(screens)-1]
			e := randomEdit(r, len(now), 12)
			next, ok := impl.ApplyEdit(now, e)
			back, backOK := impl.InvertEdit(now, e)
			together, bothOK := impl.ComposeEdits(all, e)
			if !ok || !backOK || !bothOK {
				t.Fatal("no edit", now, e)
			}
			screens, undo, all = append(screens, next), append(undo, back), together
		}
		last := screens[len(screens)-1]
		checkEdited(t, start, all, last, true)
		restore, _ := impl.InvertEdit(start, all)
		checkEdited(t, last, restore, start, true)
		for i := len(undo) - 1; i >= 0; i-- {
			checkEdited(t, screens[i+1], undo[i], screens[i], true)
		}
	}
}

// What a call returned stays as it was, and so do its arguments, whatever is called later.
func TestEditsAreKeptApart(t *testing.T) {
	screen, e := strings.Repeat("so run ", 20), edit(40, strings.Repeat("walk ", 10))
	wasScreen, wasText := strings.Clone(screen), strings.Clone(e.Text)
	after, _ := impl.ApplyEdit(screen, e)
	back, _ := impl.InvertEdit(screen, e)
	both, _ := impl.ComposeEdits(e, edit(10, "sits"))
	least, _ := impl.LeastEdit(screen, after)
	notation, _ := impl.FormatEdit(e)
	read, _ := impl.ParseEdit(notation)
	results := []string{after, back.Text, both.Text, least.Text, notation, read.Text}
	var copies []string
	for _, s := range results {
		copies = append(copies, strings.Clone(s))
	}
	for n := range 40 {
		impl.ApplyEdit(screen, edit(n, "?"))
		impl.InvertEdit(after, edit(n, "?"))
		impl.ComposeEdits(e, edit(n, "?"))
		impl.ComposeEdits(both, edit(n, "?"))
		impl.LeastEdit(after, strings.Repeat("?", n))
		impl.ParseEdit(notation[:n])
	}
	if screen != wasScreen || e.Text != wasText {
		t.Errorf("the arguments changed to %q, %q", screen, e.Text)
	}
	for i := range results {
		if results[i] != copies[i] {
			t.Errorf("the result %q changed to %q", copies[i], results[i])
		}
	}
}
