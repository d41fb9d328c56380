package tests

import (
	"math"
	"math/rand"
	"slices"
	"strconv"
	"strings"
	"testing"

	"loop.example/g00882/impl"
)

// Promise 3: generated chords assemble to their strokes in both modes and leave no key down.
// Promise 26, for chapter 3: every function returns for all arguments and modifies none of them.

func down(at, key int) impl.KeyEvent { return impl.KeyEvent{Time: at, Key: key, Down: true} }

func up(at, key int) impl.KeyEvent { return impl.KeyEvent{Time: at, Key: key} }

// moves reads a list like "+1 +8 -1", where + is down; the times are 0, 1, 2 and so on.
func moves(text string) []impl.KeyEvent {
	var l []impl.KeyEvent
	for i, move := range strings.Fields(text) {
		key, err := strconv.Atoi(move[1:])
		if err != nil {
			panic(err)
		}
		l = append(l, impl.KeyEvent{Time: i, Key: key, Down: move[0] == '+'})
	}
	return l
}

// taps are n events that press and release key in turn, all at the given time.
func taps(n, at, key int) []impl.KeyEvent {
	l := make([]impl.KeyEvent, n)
	for i := range l {
		l[i] = impl.KeyEvent{Time: at, Key: key, Down: i%2 == 0}
	}
	return l
}

func isTimeOfEvent(time int) bool { return 0 <= time && time <= 999999 }

// expectedValid looks at the times first and then at each key on its own.
func expectedValid(l []impl.KeyEvent) bool {
	if len(l) > 200 {
		return false
	}
	var times []int
	movesOf := map[int][]bool{}
	for _, event := range l {
		if !isTimeOfEvent(event.Time) || event.Key < 0 || event.Key > 22 {
			return false
		}
		times = append(times, event.Time)
		movesOf[event.Key] = append(movesOf[event.Key], event.Down)
	}
	for _, goesDown := range movesOf {
		for i := range goesDown {
			if goesDown[i] != (i%2 == 0) {
				return false
			}
		}
	}
	return slices.IsSorted(times)
}

// expectedHeld finds the keys that a valid list moves an odd number of times.
func expectedHeld(l []impl.KeyEvent) []int {
	var held []int
	for key := range 23 {
		count := 0
		for _, event := range l {
			if event.Key == key {
				count++
			}
		}
		if count%2 == 1 {
			held = append(held, key)
		}
	}
	return held
}

// expectedLastUps cuts a valid list after each event that leaves no key down; the keys of a
// piece are its stroke.
func expectedLastUps(l []impl.KeyEvent) (strokes, times []int) {
	from := 0
	for i := range l {
		if len(expectedHeld(l[:i+1])) == 0 {
			strokes = append(strokes, keysMovedIn(l[from:i+1]))
			times = append(times, l[i].Time)
			from = i + 1
		}
	}
	return strokes, times
}

func keysMovedIn(l []impl.KeyEvent) int {
	s := 0
	for key := range 23 {
		if slices.ContainsFunc(l, func(event impl.KeyEvent) bool { return event.Key == key }) {
			s += of(key)
		}
	}
	return s
}

func expectedFirstUps(l []impl.KeyEvent) []int {
	var strokes []int
	for i := 1; i < len(l); i++ {
		if l[i-1].Down && !l[i].Down {
			strokes = append(strokes, of(expectedHeld(l[:i])...))
		}
	}
	return strokes
}

func checkInts(t *testing.T, name string, f func([]impl.KeyEvent) ([]int, bool), l []impl.KeyEvent, want []int, wantOK bool) {
	t.Helper()
	before := slices.Clone(l)
	if got, ok := f(l); !slices.Equal(got, want) || ok != wantOK {
		t.Errorf("%s(%.400v) = %v, %v; want %v, %v", name, l, got, ok, want, wantOK)
	}
	if !slices.Equal(l, before) {
		t.Fatalf("%s changed %.400v to %.400v", name, before, l)
	}
}

func checkLastUps(t *testing.T, l []impl.KeyEvent, strokes, times []int) {
	t.Helper()
	checkInts(t, "LastUpStrokes", impl.LastUpStrokes, l, strokes, true)
	checkInts(t, "StrokeTimes", impl.StrokeTimes, l, times, true)
}

func checkFirstUps(t *testing.T, l []impl.KeyEvent, want ...int) {
	t.Helper()
	checkInts(t, "FirstUpStrokes", impl.FirstUpStrokes, l, want, true)
}

func checkHeld(t *testing.T, l []impl.KeyEvent, want ...int) {
	t.Helper()
	checkInts(t, "HeldKeys", impl.HeldKeys, l, want, true)
}

func checkValidity(t *testing.T, l []impl.KeyEvent, want bool) {
	t.Helper()
	before := slices.Clone(l)
	if got := impl.IsValidEvents(l); got != want {
		t.Errorf("IsValidEvents(%.400v) = %v", l, got)
	}
	if !slices.Equal(l, before) {
		t.Fatalf("IsValidEvents changed %.400v to %.400v", before, l)
	}
}

func checkInvalidEvents(t *testing.T, l []impl.KeyEvent) {
	t.Helper()
	checkValidity(t, l, false)
	checkInts(t, "LastUpStrokes", impl.LastUpStrokes, l, nil, false)
	checkInts(t, "FirstUpStrokes", impl.FirstUpStrokes, l, nil, false)
	checkInts(t, "StrokeTimes", impl.StrokeTimes, l, nil, false)
	checkInts(t, "HeldKeys", impl.HeldKeys, l, nil, false)
}

// checkEvents compares all functions on l with their second readings above.
func checkEvents(t *testing.T, l []impl.KeyEvent) {
	t.Helper()
	if !expectedValid(l) {
		checkInvalidEvents(t, l)
		return
	}
	checkValidity(t, l, true)
	strokes, times := expectedLastUps(l)
	checkLastUps(t, l, strokes, times)
	checkFirstUps(t, l, expectedFirstUps(l)...)
	checkHeld(t, l, expectedHeld(l)...)
}

func TestConstantOfChapter3(t *testing.T) {
	if impl.MaxEvents != 200 {
		t.Error("events", impl.MaxEvents)
	}
}

func TestNoEvents(t *testing.T) {
	for _, l := range [][]impl.KeyEvent{nil, {}, moves("+1 -1")[:0], moves("-1 -1")[:0]} {
		checkValidity(t, l, true)
		checkLastUps(t, l, nil, nil)
		checkFirstUps(t, l)
		checkHeld(t, l)
	}
}

func TestOneChord(t *testing.T) {
	for _, text := range []string{"+3 +8 +19 -3 -8 -19", "+19 +3 +8 -8 -19 -3", "+8 +19 +3 -3 -19 -8"} {
		checkLastUps(t, moves(text), []int{of(3, 8, 19)}, []int{5})
		checkFirstUps(t, moves(text), of(3, 8, 19))
		checkHeld(t, moves(text))
	}
	for key := range 23 {
		l := []impl.KeyEvent{down(4, key), up(7, key)}
		checkLastUps(t, l, []int{of(key)}, []int{7})
		checkFirstUps(t, l, of(key))
		checkHeld(t, l)
	}
}

func TestSeveralChords(t *testing.T) {
	l := moves("+1 +8 -8 -1 +1 -1 +22 +0 -0 -22")
	checkLastUps(t, l, []int{of(1, 8), of(1), of(0, 22)}, []int{3, 5, 9})
	checkFirstUps(t, l, of(1, 8), of(1), of(0, 22))
	checkHeld(t, l)
}

func TestKeysStillDownAtTheEnd(t *testing.T) {
	checkLastUps(t, moves("+5"), nil, nil)
	checkFirstUps(t, moves("+5"))
	checkHeld(t, moves("+5"), 5)

	checkLastUps(t, moves("+5 +2 -5"), nil, nil)
	checkFirstUps(t, moves("+5 +2 -5"), of(2, 5))
	checkHeld(t, moves("+5 +2 -5"), 2)

	l := moves("+1 +8 -1 -8 +22 +0 +13")
	checkLastUps(t, l, []int{of(1, 8)}, []int{3})
	checkFirstUps(t, l, of(1, 8))
	checkHeld(t, l, 0, 13, 22)

	l = nil
	for key := 22; key >= 0; key-- {
		l = append(l, down(0, key))
	}
	checkLastUps(t, l, nil, nil)
	checkFirstUps(t, l)
	checkHeld(t, l, keysUpTo(23)...)
	checkLastUps(t, append(l, up(0, 22)), nil, nil)
	checkFirstUps(t, append(l, up(0, 22)), largestStroke)
	checkHeld(t, append(l, up(0, 22)), keysUpTo(22)...)
}

func TestAKeyPressedAgainWhileOthersAreHeld(t *testing.T) {
	l := moves("+1 +8 -1 +1 -1 -8")
	checkLastUps(t, l, []int{of(1, 8)}, []int{5})
	checkFirstUps(t, l, of(1, 8), of(1, 8))
	checkHeld(t, l)

	l = moves("+1 +8 -1 -8 +8 +3 -8 +8")
	checkLastUps(t, l, []int{of(1, 8)}, []int{3})
	checkFirstUps(t, l, of(1, 8), of(3, 8))
	checkHeld(t, l, 3, 8)
}

// In last-up mode, a key that went up long ago is still part of the stroke; one that belonged to
// the stroke before is not.
func TestLastUpKeepsTheKeysSinceTheLastStroke(t *testing.T) {
	checkLastUps(t, moves("+1 +2 -1 +3 -2 +4 -3 -4 +1 -1"), []int{of(1, 2, 3, 4), of(1)}, []int{7, 9})
	checkLastUps(t, moves("+1 -1 +2 -2 +1 +2 -1 -2"), []int{of(1), of(2), of(1, 2)}, []int{1, 3, 7})
}

func TestSeveralStrokesFromOneHeldKeyInFirstUpMode(t *testing.T) {
	l := moves("+8 +1 -1 +2 -2 +3 +4 -3 -4 -8")
	checkFirstUps(t, l, of(1, 8), of(2, 8), of(3, 4, 8))
	checkLastUps(t, l, []int{of(1, 2, 3, 4, 8)}, []int{9})
	checkHeld(t, l)
	checkFirstUps(t, moves("+8 +1 -1 +1 -1 +1 -1"), of(1, 8), of(1, 8), of(1, 8))
}

// It is the event before that counts, not the move of the same key before.
func TestFirstUpAfterAnEventUp(t *testing.T) {
	checkFirstUps(t, moves("+1 +2 +3 -1 -2 -3"), of(1, 2, 3))
	checkFirstUps(t, moves("+1 +2 -1 +3 -2 -3"), of(1, 2), of(2, 3))
	checkFirstUps(t, moves("+1 +2 -2 -1 +2 -2"), of(1, 2), of(2))
}

func TestEventsAtEqualTimes(t *testing.T) {
	l := []impl.KeyEvent{down(6, 1), down(6, 8), up(6, 1), up(6, 8), down(6, 8), up(6, 8), down(6, 0)}
	checkLastUps(t, l, []int{of(1, 8), of(8)}, []int{6, 6})
	checkFirstUps(t, l, of(1, 8), of(8))
	checkHeld(t, l, 0)
	for _, at := range []int{0, 999999} {
		checkLastUps(t, taps(6, at, 9), []int{of(9), of(9), of(9)}, []int{at, at, at})
		checkFirstUps(t, taps(6, at, 9), of(9), of(9), of(9))
	}
}

func TestTimesAtTheLimits(t *testing.T) {
	l := []impl.KeyEvent{down(0, 1), up(999999, 1)}
	checkLastUps(t, l, []int{of(1)}, []int{999999})
	checkFirstUps(t, l, of(1))
	for _, time := range []int{-1, -2, -999999, 1000000, 1000001, 1 << 32, math.MaxInt, math.MinInt} {
		checkInvalidEvents(t, []impl.KeyEvent{down(time, 1)})
		checkInvalidEvents(t, []impl.KeyEvent{down(time, 1), up(time, 1)})
		checkInvalidEvents(t, []impl.KeyEvent{down(0, 1), up(time, 1)})
		checkInvalidEvents(t, []impl.KeyEvent{down(time, 1), up(999999, 1)})
		checkInvalidEvents(t, []impl.KeyEvent{down(0, 1), up(1, 1), down(time, 2)})
	}
}

func TestTimesThatDecrease(t *testing.T) {
	checkInvalidEvents(t, []impl.KeyEvent{down(5, 1), down(4, 2)})
	checkInvalidEvents(t, []impl.KeyEvent{down(999999, 1), up(0, 1)})
	checkInvalidEvents(t, []impl.KeyEvent{down(3, 1), up(7, 1), down(6, 1), up(8, 1)})
	checkInvalidEvents(t, []impl.KeyEvent{down(3, 1), up(7, 1), down(7, 1), up(2, 1)})
}

// Every choice of four times, of which only the sorted ones from 0 to 999999 are valid.
func TestAllOrdersOfTimes(t *testing.T) {
	times := []int{-1, 0, 1, 999998, 999999, 1000000}
	for n := range 6 * 6 * 6 * 6 {
		l := moves("+1 +2 -1 -2")
		for i := range l {
			l[i].Time = times[n%6]
			n /= 6
		}
		checkEvents(t, l)
	}
}

func TestKeysOutOfRange(t *testing.T) {
	for _, key := range []int{-1, -2, -23, -64, 23, 24, 31, 32, 63, 64, 1 << 32, 1<<32 + 1, math.MaxInt, math.MinInt} {
		checkInvalidEvents(t, []impl.KeyEvent{down(0, key)})
		checkInvalidEvents(t, []impl.KeyEvent{up(0, key)})
		checkInvalidEvents(t, []impl.KeyEvent{down(0, key), up(1, key)})
		checkInvalidEvents(t, []impl.KeyEvent{down(0, 1), up(1, 1), down(2, key)})
		checkInvalidEvents(t, []impl.KeyEvent{down(0, 1), up(1, key)})
	}
}

func TestMovesThatDoNotAlternate(t *testing.T) {
	for _, text := range []string{
		"-1", "+1 +1", "-1 +1", "+1 -1 -1", "+1 -2", "+1 +2 +1", "+1 +2 -1 -1", "+1 -1 +1 +1", "+2 +1 -1 -2 -2",
		"+1 +2 -1 -2 -1", "+0 +0", "-0", "+22 +22", "-22", "+22 -22 -22", "+1 -1 -0", "+1 +1 -1 -1",
	} {
		checkInvalidEvents(t, moves(text))
	}
	for key := range 23 {
		other := (key + 7) % 23
		checkInvalidEvents(t, []impl.KeyEvent{down(0, other), up(1, key)})
		checkInvalidEvents(t, []impl.KeyEvent{down(0, key), down(0, other), down(1, key)})
	}
}

func TestAsManyEventsAsMayBe(t *testing.T) {
	l := taps(200, 17, 4)
	checkLastUps(t, l, slices.Repeat([]int{of(4)}, 100), slices.Repeat([]int{17}, 100))
	checkFirstUps(t, l, slices.Repeat([]int{of(4)}, 100)...)
	checkHeld(t, l)
	checkHeld(t, append([]impl.KeyEvent{down(0, 22)}, taps(199, 17, 4)...), 4, 22)
	for _, n := range []int{201, 202, 400, 1 << 16} {
		checkInvalidEvents(t, taps(n, 17, 4))
	}
	checkInvalidEvents(t, append([]impl.KeyEvent{down(0, 22)}, l...))
	checkInvalidEvents(t, make([]impl.KeyEvent, 200))
}

// Every list of a few moves, valid or not: of one key, of two and of three.
func TestAllListsOfFewMoves(t *testing.T) {
	checkAllMoves(t, []string{"+22", "-22"}, 9)
	checkAllMoves(t, []string{"+0", "-0", "+22", "-22"}, 7)
	checkAllMoves(t, []string{"+1", "-1", "+8", "-8", "+13", "-13"}, 6)
}

func checkAllMoves(t *testing.T, choices []string, most int) {
	t.Helper()
	lists := []string{""}
	for range most {
		var longer []string
		for _, list := range lists {
			for _, move := range choices {
				longer = append(longer, list+" "+move)
				checkEvents(t, moves(list+" "+move))
			}
		}
		lists = longer
	}
}

// randomEvents makes a valid list of n events.
func randomEvents(r *rand.Rand, n int) []impl.KeyEvent {
	var l []impl.KeyEvent
	var isDown [23]bool
	keys := 1 + r.Intn(23)
	time := r.Intn(3)
	for range n {
		key := r.Intn(keys)
		isDown[key] = !isDown[key]
		l = append(l, impl.KeyEvent{Time: time, Key: key, Down: isDown[key]})
		time += r.Intn(3)
	}
	return l
}

func TestRandomEvents(t *testing.T) {
	r := rand.New(rand.NewSource(3))
	for range 2000 {
		l := randomEvents(r, r.Intn(201))
		checkEvents(t, l)
		if len(l) > 0 {
			spoil(r, &l[r.Intn(len(l))])
			checkEvents(t, l)
		}
	}
}

// spoil changes one field, which often but not always makes the list invalid.
func spoil(r *rand.Rand, event *impl.KeyEvent) {
	switch r.Intn(4) {
	case 0:
		event.Time += r.Intn(5) - 2
	case 1:
		event.Key += r.Intn(5) - 2
	case 2:
		event.Down = !event.Down
	case 3:
		event.Key, event.Time = int(r.Uint64()), int(r.Uint64())
	}
}

// The events beyond the length of the slice are others than those that a valid list could have.
func TestEventsBeyondTheLengthAreNotRead(t *testing.T) {
	all := append(moves("+1 +8 -1 -8 +3"), up(-1, 99), down(0, 3), down(math.MaxInt, -5))
	before := slices.Clone(all)
	for n := range len(all) + 1 {
		checkEvents(t, all[:n])
	}
	if !slices.Equal(all, before) {
		t.Error("changed to", all)
	}
}

func TestStrokesAreNewMemory(t *testing.T) {
	l := moves("+1 +8 -1 -8 +3 -3 +2")
	for _, f := range []func([]impl.KeyEvent) ([]int, bool){
		impl.LastUpStrokes, impl.FirstUpStrokes, impl.StrokeTimes, impl.HeldKeys,
	} {
		first, _ := f(l)
		want := slices.Clone(first)
		second, _ := f(l)
		first[0] = -7
		_ = append(first[:0], -8, -9)
		if !slices.Equal(second, want) {
			t.Error("shared", second)
		}
		checkInts(t, "again", f, l, want, true)
	}
}

// expectedChords takes the keys of each stroke from its notation in ones and zeros.
func expectedChords(strokes []int, interval int) []impl.KeyEvent {
	var l []impl.KeyEvent
	time := 0
	for _, s := range strokes {
		bits := strconv.FormatInt(int64(s), 2)
		for _, goesDown := range []bool{true, false} {
			for key := range len(bits) {
				if bits[len(bits)-1-key] == '1' {
					l = append(l, impl.KeyEvent{Time: time, Key: key, Down: goesDown})
				}
			}
			time += interval
		}
	}
	return l
}

func checkChords(t *testing.T, strokes []int, interval int, want []impl.KeyEvent, wantOK bool) {
	t.Helper()
	before := slices.Clone(strokes)
	if got, ok := impl.ChordEvents(strokes, interval); !slices.Equal(got, want) || ok != wantOK {
		t.Errorf("ChordEvents(%.100v, %d) = %.400v, %v; want %.400v, %v", strokes, interval, got, ok, want, wantOK)
	}
	if !slices.Equal(strokes, before) {
		t.Fatalf("ChordEvents changed %.100v to %.100v", before, strokes)
	}
}

func checkNoChords(t *testing.T, strokes []int, interval int) {
	t.Helper()
	checkChords(t, strokes, interval, nil, false)
}

// checkPromise3 also checks the events that lead back to the strokes.
func checkPromise3(t *testing.T, strokes []int, interval int) {
	t.Helper()
	checkChords(t, strokes, interval, expectedChords(strokes, interval), true)
	l, _ := impl.ChordEvents(strokes, interval)
	var times []int
	for i := range strokes {
		times = append(times, interval+2*interval*i)
	}
	checkValidity(t, l, true)
	checkLastUps(t, l, strokes, times)
	checkFirstUps(t, l, strokes...)
	checkHeld(t, l)
}

func TestChordEvents(t *testing.T) {
	checkChords(t, []int{of(1), of(22)}, 5, []impl.KeyEvent{down(0, 1), up(5, 1), down(10, 22), up(15, 22)}, true)
	checkChords(t, []int{of(19, 3, 8)}, 7, []impl.KeyEvent{
		down(0, 3), down(0, 8), down(0, 19), up(7, 3), up(7, 8), up(7, 19),
	}, true)
	checkChords(t, []int{of(0), of(0, 22), of(0)}, 1, []impl.KeyEvent{
		down(0, 0), up(1, 0), down(2, 0), down(2, 22), up(3, 0), up(3, 22), down(4, 0), up(5, 0),
	}, true)
}

func TestChordsAssembleToTheirStrokes(t *testing.T) {
	for key := range 23 {
		checkPromise3(t, []int{of(key)}, 3)
		checkPromise3(t, []int{of(key), largestStroke, of(key), of(key)}, 3)
	}
	for s := smallestStroke; s <= largestStroke; s += 4999 {
		checkPromise3(t, []int{s}, 10)
		checkPromise3(t, []int{s, s}, 10)
		checkPromise3(t, []int{s, largestStroke - s + 1}, 10)
	}
	checkPromise3(t, []int{largestStroke}, 1)
}

func TestRandomChords(t *testing.T) {
	r := rand.New(rand.NewSource(33))
	for range 2000 {
		var strokes []int
		for range r.Intn(5) {
			strokes = append(strokes, 1+r.Intn(largestStroke))
		}
		checkPromise3(t, strokes, r.Intn(1001))
	}
}

func TestIntervalsAtTheLimits(t *testing.T) {
	for _, interval := range []int{0, 1, 999, 1000} {
		checkPromise3(t, nil, interval)
		checkPromise3(t, []int{}, interval)
		checkPromise3(t, []int{of(3, 8, 19), of(1), of(1), of(3, 8)}, interval)
		checkPromise3(t, slices.Repeat([]int{of(5)}, 100), interval)
	}
	checkChords(t, []int{of(1), of(1)}, 0, []impl.KeyEvent{down(0, 1), up(0, 1), down(0, 1), up(0, 1)}, true)
	checkChords(t, []int{of(1), of(1)}, 1000, []impl.KeyEvent{down(0, 1), up(1000, 1), down(2000, 1), up(3000, 1)}, true)
	for _, interval := range []int{-1, -2, -1000, 1001, 1002, 999999, 1 << 32, 1 << 62, math.MaxInt, math.MinInt} {
		checkNoChords(t, nil, interval)
		checkNoChords(t, []int{of(1)}, interval)
		checkNoChords(t, []int{of(1), of(2)}, interval)
	}
}

func TestAsManyChordsAsMayBe(t *testing.T) {
	one := of(6)
	full := slices.Repeat([]int{largestStroke}, 4)
	checkPromise3(t, slices.Repeat([]int{one}, 100), 1000)
	checkNoChords(t, slices.Repeat([]int{one}, 101), 1000)
	checkNoChords(t, slices.Repeat([]int{one}, 101), 0)
	checkPromise3(t, append(slices.Clone(full), 255), 9)
	checkPromise3(t, append(slices.Clone(full), 1, 2, 4, 8, 16, 32, 64, 128), 9)
	checkPromise3(t, append([]int{255}, full...), 9)
	checkNoChords(t, append(slices.Clone(full), 511), 9)
	checkNoChords(t, append([]int{511}, full...), 9)
	checkNoChords(t, append(slices.Clone(full), 255, one), 9)
	checkNoChords(t, append(slices.Clone(full), largestStroke), 9)
	checkNoChords(t, slices.Repeat([]int{one}, 1<<20), 9)
	checkNoChords(t, append(slices.Repeat([]int{one}, 100), noStroke), 9)
}

func TestChordsOfNoStrokes(t *testing.T) {
	for _, s := range notStrokes {
		checkNoChords(t, []int{s}, 5)
		checkNoChords(t, []int{s, of(1)}, 5)
		checkNoChords(t, []int{of(1), s}, 5)
		checkNoChords(t, []int{of(1), s, of(1)}, 0)
	}
}

func TestStrokesBeyondTheLengthAreNotRead(t *testing.T) {
	all := []int{of(3, 8, 19), of(1), noStroke, -1}
	checkPromise3(t, all[:0], 4)
	checkPromise3(t, all[:1], 4)
	checkPromise3(t, all[:2], 4)
	checkNoChords(t, all[:3], 4)
	if !slices.Equal(all, []int{of(3, 8, 19), of(1), noStroke, -1}) {
		t.Error("changed to", all)
	}
}

func TestChordsAreNewMemory(t *testing.T) {
	strokes := []int{of(3, 8), of(1)}
	first, _ := impl.ChordEvents(strokes, 2)
	first[0] = down(7, 7)
	_ = append(first[:1], up(8, 8))
	checkPromise3(t, strokes, 2)
}
