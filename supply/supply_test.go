package supply

import (
	"math"
	"slices"
	"testing"

	"framekeep/api"
	"framekeep/frame"
	"framekeep/kernel"
	"framekeep/plain"
)

// spans of numbers, three each: from, to, room.
func spans(numbers ...int) []api.Span {
	var l []api.Span
	for s := range slices.Chunk(numbers, 3) {
		l = append(l, api.Span{From: s[0], To: s[1], Room: s[2]})
	}
	return l
}

// singles is n spans of one tick each, one behind the other.
func singles(n int) []api.Span {
	var l []api.Span
	for i := range n {
		l = append(l, api.Span{From: i, To: i + 1, Room: i % api.MaxRooms})
	}
	return l
}

// counts asks for all that Turns answers.
func counts(t *testing.T, ticks int, l []api.Span, room, from, many, answer int, want api.Errno) {
	t.Helper()
	got, err := Turns(ticks, l, room, from, many)
	if got != answer || plain.Told(err) != want {
		t.Errorf("Turns(%d, %v, %d, %d, %d): got %d, %v, want %d, %v", ticks, l, room, from, many, got, plain.Told(err), answer, want)
	}
}

// atLeast asks for all that Least answers.
func atLeast(t *testing.T, ticks int, l []api.Span, room, many, answer int, want api.Errno) {
	t.Helper()
	got, err := Least(ticks, l, room, many)
	if got != answer || plain.Told(err) != want {
		t.Errorf("Least(%d, %v, %d, %d): got %d, %v, want %d, %v", ticks, l, room, many, got, plain.Told(err), answer, want)
	}
}

// waits asks for all that Wait answers.
func waits(t *testing.T, ticks int, l []api.Span, room, turns, answer int, want api.Errno) {
	t.Helper()
	got, err := Wait(ticks, l, room, turns)
	if got != answer || plain.Told(err) != want {
		t.Errorf("Wait(%d, %v, %d, %d): got %d, %v, want %d, %v", ticks, l, room, turns, got, plain.Told(err), answer, want)
	}
}

// refused asks that all three tell one error, whatever the numbers of ticks and turns are.
func refused(t *testing.T, ticks int, l []api.Span, room int, want api.Errno) {
	t.Helper()
	numbers := []int{math.MinInt, -1, 0, 1, 100, 101, api.MaxTicks, api.MaxTicks + 1, math.MaxInt}
	for _, n := range numbers {
		for _, from := range numbers {
			counts(t, ticks, l, room, from, n, 0, want)
		}
		atLeast(t, ticks, l, room, n, 0, want)
		waits(t, ticks, l, room, n, 0, want)
	}
}

// TestS1Turns: from a tick on, over the end of a frame, and over many frames.
func TestS1Turns(t *testing.T) {
	// Room 2 has ticks 1, 2 and 6 of 8, room 0 has 3.
	l := spans(6, 7, 2, 1, 3, 2, 3, 4, 0)
	from0 := []int{0, 0, 1, 2, 2, 2, 2, 3, 3, 3, 4}
	from2 := []int{0, 1, 1, 1, 1, 2, 2, 2, 3, 4, 4}
	from6 := []int{0, 1, 1, 1, 2, 3, 3, 3, 3, 4, 4}
	from7 := []int{0, 0, 0, 1, 2, 2, 2, 2, 3, 3, 3}
	for many := range from0 {
		counts(t, 8, l, 2, 0, many, from0[many], api.OK)
		counts(t, 8, l, 2, 2, many, from2[many], api.OK)
		counts(t, 8, l, 2, 6, many, from6[many], api.OK)
		counts(t, 8, l, 2, 7, many, from7[many], api.OK)
		counts(t, 8, l, 2, 7+8*9, many, from7[many], api.OK)
		counts(t, 8, l, 1, 7, many, 0, api.OK)
	}
	counts(t, 8, l, 2, 5, 800, 300, api.OK)
	counts(t, 8, l, 0, 5, 800, 100, api.OK)
	counts(t, 8, l, 0, 3, 801, 101, api.OK)
	counts(t, 8, l, 0, 4, 801, 100, api.OK)
}

// TestS1TurnsAtTheEdges: from and many are 0 to MaxTicks, each by itself.
func TestS1TurnsAtTheEdges(t *testing.T) {
	one := spans(0, 1, 4)
	for _, from := range []int{0, 1, api.MaxTicks - 1, api.MaxTicks} {
		for _, many := range []int{0, 1, api.MaxTicks - 1, api.MaxTicks} {
			counts(t, 1, one, 4, from, many, many, api.OK)
			counts(t, 1, one, 0, from, many, 0, api.OK)
			counts(t, api.MaxFrame, nil, 0, from, many, 0, api.OK)
		}
	}
	counts(t, 40, one, 4, 2000, 1, 1, api.OK)
	counts(t, 40, one, 4, 1999, 1, 0, api.OK)
	counts(t, 40, one, 4, 2000, 2000, 50, api.OK)
	counts(t, 39, one, 4, 1, 2000, 51, api.OK)
	counts(t, 39, one, 4, 2000, 2000, 51, api.OK)
	for _, wrong := range []int{math.MinInt, -2000, -1, api.MaxTicks + 1, math.MaxInt} {
		for _, other := range []int{math.MinInt, -1, 0, 1, api.MaxTicks, api.MaxTicks + 1, math.MaxInt} {
			for room := range api.MaxRooms {
				counts(t, 40, one, room, wrong, other, 0, api.ErrRange)
				counts(t, 40, one, room, other, wrong, 0, api.ErrRange)
			}
		}
	}
}

// TestS1Least: whichever start has the fewest.
func TestS1Least(t *testing.T) {
	l := spans(6, 7, 2, 1, 3, 2, 3, 4, 0)
	// From 3 on there are the fewest: 6 is the first one, then come 9, 10 and 14.
	for many, want := range []int{0, 0, 0, 0, 1, 1, 1, 2, 3, 3, 3, 3, 4} {
		atLeast(t, 8, l, 2, many, want, api.OK)
	}
	// Of one tick alone: a frame, and no tick fewer.
	alone := spans(5, 6, 3)
	for _, c := range [][2]int{{0, 0}, {1, 0}, {39, 0}, {40, 1}, {41, 1}, {79, 1}, {80, 2}, {1999, 49}, {2000, 50}} {
		atLeast(t, 40, alone, 3, c[0], c[1], api.OK)
		atLeast(t, 40, alone, 0, c[0], 0, api.OK)
		atLeast(t, 40, nil, 3, c[0], 0, api.OK)
	}
	// The one start that has the fewest is the first, or the last, of a frame.
	atLeast(t, 10, spans(4, 10, 1), 1, 4, 0, api.OK)
	atLeast(t, 10, spans(0, 9, 1), 1, 1, 0, api.OK)
	atLeast(t, 10, spans(3, 9, 1), 1, 4, 0, api.OK)
	// All ticks are its own: as many as there are.
	for _, many := range []int{0, 1, 7, 8, 1999, 2000} {
		atLeast(t, 1, spans(0, 1, 4), 4, many, many, api.OK)
		atLeast(t, 40, spans(20, 40, 0, 0, 20, 0), 0, many, many, api.OK)
	}
}

// TestS1LeastOfWrongMany: many is 0 to MaxTicks, also of a room that has nothing.
func TestS1LeastOfWrongMany(t *testing.T) {
	for _, many := range []int{math.MinInt, -2000, -1, api.MaxTicks + 1, math.MaxInt} {
		for room := range api.MaxRooms {
			atLeast(t, 8, spans(1, 3, 2), room, many, 0, api.ErrRange)
			atLeast(t, 1, nil, room, many, 0, api.ErrRange)
		}
	}
}

// TestS1Wait: from the worst start, the last turn's tick with it.
func TestS1Wait(t *testing.T) {
	l := spans(6, 7, 2, 1, 3, 2, 3, 4, 0)
	// From 3 on: 6, 9, 10, 14, 17, 18, 22.
	for turns, want := range []int{0, 4, 7, 8, 12, 15, 16, 20} {
		waits(t, 8, l, 2, turns, want, api.OK)
	}
	for turns := range 101 {
		waits(t, 8, l, 0, turns, 8*turns, api.OK)
		waits(t, 40, spans(39, 40, 1), 1, turns, 40*turns, api.OK)
		waits(t, 1, spans(0, 1, 1), 1, turns, turns, api.OK)
		waits(t, 40, spans(0, 40, 1), 1, turns, turns, api.OK)
	}
	// The worst start is the first, or the last, of a frame.
	waits(t, 10, spans(4, 10, 1), 1, 1, 5, api.OK)
	waits(t, 10, spans(0, 9, 1), 1, 1, 2, api.OK)
	waits(t, 10, spans(0, 9, 1), 1, 9, 10, api.OK)
	waits(t, 10, spans(0, 9, 1), 1, 10, 12, api.OK)
}

// TestS1WaitOfWrongTurns: turns is 0 to 100, ahead of whether the room has a tick.
func TestS1WaitOfWrongTurns(t *testing.T) {
	for _, turns := range []int{math.MinInt, -100, -1, 101, 102, 2000, math.MaxInt} {
		for room := range api.MaxRooms {
			waits(t, 8, spans(1, 3, 2), room, turns, 0, api.ErrRange)
			waits(t, 1, nil, room, turns, 0, api.ErrRange)
		}
	}
}

// TestS1WaitOfNone: who has no tick waits for no turn, and for any other one in vain.
func TestS1WaitOfNone(t *testing.T) {
	for _, room := range []int{0, 1, 3, 4} {
		waits(t, 8, spans(1, 3, 2), room, 0, 0, api.OK)
		waits(t, 40, nil, room, 0, 0, api.OK)
		for _, turns := range []int{1, 2, 99, 100} {
			waits(t, 8, spans(1, 3, 2), room, turns, 0, api.ErrNone)
			waits(t, 40, nil, room, turns, 0, api.ErrNone)
			waits(t, 1, []api.Span{}, room, turns, 0, api.ErrNone)
		}
	}
}

// TestS1NoSuchRoom: below 0, and from MaxRooms on, there is none; the first and the last one are.
func TestS1NoSuchRoom(t *testing.T) {
	for _, room := range []int{math.MinInt, -2, -1, api.MaxRooms, api.MaxRooms + 1, math.MaxInt} {
		refused(t, 8, spans(1, 3, 2), room, api.ErrRange)
		refused(t, 1, nil, room, api.ErrRange)
	}
	for _, room := range []int{0, api.MaxRooms - 1} {
		l := spans(1, 3, room)
		counts(t, 8, l, room, 0, 8, 2, api.OK)
		atLeast(t, 8, l, room, 8, 2, api.OK)
		waits(t, 8, l, room, 2, 8, api.OK)
	}
}

// TestS1ErrorsOfTheFrame: what is wrong with it is told ahead of rooms and numbers that may not be.
func TestS1ErrorsOfTheFrame(t *testing.T) {
	cases := []struct {
		ticks int
		l     []api.Span
		want  api.Errno
	}{
		{0, nil, api.ErrRange},
		{-1, nil, api.ErrRange},
		{math.MinInt, singles(13), api.ErrRange},
		{41, nil, api.ErrRange},
		{math.MaxInt, spans(0, 1, 0), api.ErrRange},
		{0, spans(0, 2, 1, 1, 4, 1), api.ErrRange},
		{40, singles(13), api.ErrFull},
		{40, slices.Repeat(spans(0, 1, 9), 13), api.ErrFull},
		{4, spans(-1, 1, 0), api.ErrRange},
		{4, spans(1, 1, 0), api.ErrRange},
		{4, spans(2, 1, 0), api.ErrRange},
		{4, spans(0, 5, 0), api.ErrRange},
		{4, spans(0, 1, -1), api.ErrRange},
		{4, spans(0, 1, 1, 1, 4, 5), api.ErrRange},
		{4, spans(0, 2, 1, 1, 4, 1), api.ErrClash},
		{4, spans(0, 2, 1, 1, 4, 1, 9, 9, 9), api.ErrClash},
		{4, spans(0, 2, 1, 9, 9, 9, 1, 4, 1), api.ErrRange},
	}
	for _, c := range cases {
		for _, room := range []int{math.MinInt, -1, 0, 1, 4, 5, math.MaxInt} {
			refused(t, c.ticks, c.l, room, c.want)
		}
	}
}

// TestS1FullFrame: MaxSpans spans of a frame of MaxFrame ticks are not too many.
func TestS1FullFrame(t *testing.T) {
	l := singles(api.MaxSpans)
	counts(t, api.MaxFrame, l, 1, 1, 41, 4, api.OK)
	// Ticks 1, 6 and 11 are room 1's: from 12 on comes 41, then 46.
	atLeast(t, api.MaxFrame, l, 1, 29, 0, api.OK)
	atLeast(t, api.MaxFrame, l, 1, 30, 1, api.OK)
	atLeast(t, api.MaxFrame, l, 1, 34, 1, api.OK)
	atLeast(t, api.MaxFrame, l, 1, 35, 2, api.OK)
	waits(t, api.MaxFrame, l, 1, 1, 30, api.OK)
	waits(t, api.MaxFrame, l, 1, 2, 35, api.OK)
}

// walked goes from a tick on, and asks of each one who has it.
func walked(t *testing.T, ticks int, l []api.Span, room, from, many int) int {
	t.Helper()
	had := 0
	for i := from; i < from+many; i++ {
		who, err := frame.Who(ticks, l, i)
		if err != nil {
			t.Fatal(err)
		}
		if who == room {
			had++
		}
	}
	return had
}

// fewest of all starts of two frames.
func fewest(t *testing.T, ticks int, l []api.Span, room, many int) int {
	t.Helper()
	var all []int
	for from := range 2 * ticks {
		all = append(all, walked(t, ticks, l, room, from, many))
	}
	return slices.Min(all)
}

// longest is the least number of ticks that is enough from all starts, tried one by one.
func longest(t *testing.T, ticks int, l []api.Span, room, turns int) int {
	t.Helper()
	many := 0
	for fewest(t, ticks, l, room, many) < turns {
		many++
	}
	return many
}

// same asks all three against walks; of a room that has nothing each wait but one for nothing is in vain.
func same(t *testing.T, ticks int, l []api.Span, room, many, turns int) {
	t.Helper()
	for from := range ticks + 2 {
		counts(t, ticks, l, room, from, many, walked(t, ticks, l, room, from, many), api.OK)
	}
	atLeast(t, ticks, l, room, many, fewest(t, ticks, l, room, many), api.OK)
	if turns > 0 && fewest(t, ticks, l, room, ticks) == 0 {
		waits(t, ticks, l, room, turns, 0, api.ErrNone)
		return
	}
	waits(t, ticks, l, room, turns, longest(t, ticks, l, room, turns), api.OK)
}

// laid makes spans of the ticks of a set, each of a room; all others are another room's, or nobody's.
func laid(ticks, set, room, other int) []api.Span {
	var l []api.Span
	for i := range ticks {
		if set>>i&1 == 1 {
			l = append(l, api.Span{From: i, To: i + 1, Room: room})
		} else if other >= 0 {
			l = append(l, api.Span{From: i, To: i + 1, Room: other})
		}
	}
	return l
}

// TestS1AllSmallFrames: whichever ticks of up to 5 a room has, spans in either order.
func TestS1AllSmallFrames(t *testing.T) {
	for ticks := 1; ticks <= 5; ticks++ {
		for set := range 1 << ticks {
			for _, other := range []int{-1, 1} {
				l := laid(ticks, set, 3, other)
				for n := range 2*ticks + 2 {
					same(t, ticks, l, 3, n, n/2)
				}
				slices.Reverse(l)
				same(t, ticks, l, 3, ticks+2, 3)
			}
		}
	}
}

// drawn is a number below n, from a state that goes on: a rule, so that a fault is found again.
func drawn(state *uint64, n int) int {
	*state = *state*6364136223846793005 + 1442695040888963407
	return int(*state>>33) % n
}

// drawnFrame has spans one behind the other, some ticks between, stirred.
func drawnFrame(state *uint64) (int, []api.Span) {
	ticks := 1 + drawn(state, api.MaxFrame)
	var l []api.Span
	for at := drawn(state, 4); at < ticks && len(l) < api.MaxSpans; at += drawn(state, 5) {
		to := min(ticks, at+1+drawn(state, 6))
		l = append(l, api.Span{From: at, To: to, Room: drawn(state, api.MaxRooms)})
		at = to
	}
	for i := range l {
		j := drawn(state, i+1)
		l[i], l[j] = l[j], l[i]
	}
	return ticks, l
}

// TestS1DrawnFrames: frames as they come, up to MaxFrame ticks and MaxSpans spans.
func TestS1DrawnFrames(t *testing.T) {
	state := uint64(14)
	for range 60 {
		ticks, l := drawnFrame(&state)
		same(t, ticks, l, drawn(&state, api.MaxRooms), drawn(&state, 90), drawn(&state, 4))
	}
}

// TestS1GoesTogether: in so many ticks as one waits there are the turns, in one tick fewer there are not; for one turn one waits a gap.
func TestS1GoesTogether(t *testing.T) {
	state := uint64(41)
	for range 300 {
		ticks, l := drawnFrame(&state)
		room := drawn(&state, api.MaxRooms)
		gap, err := frame.Gap(ticks, l, room)
		waits(t, ticks, l, room, 1, gap, plain.Told(err))
		if err != nil {
			continue
		}
		turns := 1 + drawn(&state, 50)
		many, err := Wait(ticks, l, room, turns)
		if err != nil || many > api.MaxTicks {
			t.Fatalf("Wait(%d, %v, %d, %d): got %d, %v", ticks, l, room, turns, many, err)
		}
		enough, _ := Least(ticks, l, room, many)
		less, _ := Least(ticks, l, room, many-1)
		if enough < turns || less >= turns {
			t.Errorf("of %d, %v, room %d, %d turns in %d ticks: got %d, in one fewer %d", ticks, l, room, turns, many, enough, less)
		}
	}
}

// TestS1OfAKernel: a room of a kernel has as many ticks as Turns tells.
func TestS1OfAKernel(t *testing.T) {
	rest := []api.Op{{What: api.Rest}}
	p := api.Plan{Code: [][]api.Op{rest, rest, rest}, Ticks: 8, Spans: spans(6, 7, 2, 1, 3, 2, 3, 4, 0)}
	k, err := kernel.New(p)
	if err != nil {
		t.Fatal(err)
	}
	had := make([]int, len(p.Code))
	for n := range 100 {
		for room := range had {
			counts(t, p.Ticks, p.Spans, room, 0, n, had[room], api.OK)
		}
		if e := k.Tick(); e.Room >= 0 {
			had[e.Room]++
		}
	}
}

// TestP2SpansStayAsTheyAre: neither what is handed in nor what lies behind its length is written into, or read; nor is it kept.
func TestP2SpansStayAsTheyAre(t *testing.T) {
	memory := spans(4, 6, 2, 0, 2, 4, 0, 9, 9, 2, 3, 1)
	before := slices.Clone(memory)
	l := memory[:2]
	counts(t, 6, l, 2, 4, 7, 3, api.OK)
	atLeast(t, 6, l, 4, 5, 1, api.OK)
	waits(t, 6, l, 4, 1, 5, api.OK)
	waits(t, 6, l, 1, 1, 0, api.ErrNone)
	if !slices.Equal(memory, before) {
		t.Errorf("changed to %v", memory)
	}
	l[0] = api.Span{From: 4, To: 5, Room: 1}
	counts(t, 6, l, 2, 4, 7, 0, api.OK)
	atLeast(t, 6, l, 1, 6, 1, api.OK)
	waits(t, 6, l, 1, 1, 6, api.OK)
}
