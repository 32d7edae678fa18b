package frame

import (
	"math"
	"slices"
	"testing"

	"framekeep/api"
	"framekeep/plain"
)

// span from a tick on to below another one.
func span(from, to, room int) api.Span { return api.Span{From: from, To: to, Room: room} }

// singles is n spans of one tick each, one behind the other.
func singles(n int) []api.Span {
	var l []api.Span
	for i := range n {
		l = append(l, span(i, i+1, i%5))
	}
	return l
}

// checked asks for all that Check answers.
func checked(t *testing.T, ticks int, l []api.Span, place int, want api.Errno) {
	t.Helper()
	i, err := Check(ticks, l)
	if i != place || plain.Told(err) != want {
		t.Errorf("Check(%d, %v): got %d, %v, want %d, %v", ticks, l, i, plain.Told(err), place, want)
	}
}

// whose asks for all that Who answers.
func whose(t *testing.T, ticks int, l []api.Span, tick, room int, want api.Errno) {
	t.Helper()
	got, err := Who(ticks, l, tick)
	if got != room || plain.Told(err) != want {
		t.Errorf("Who(%d, %v, %d): got %d, %v, want %d, %v", ticks, l, tick, got, plain.Told(err), room, want)
	}
}

// shared asks for all that Shares answers.
func shared(t *testing.T, ticks int, l []api.Span, shares []int, want api.Errno) {
	t.Helper()
	got, err := Shares(ticks, l)
	if !slices.Equal(got, shares) || plain.Told(err) != want {
		t.Errorf("Shares(%d, %v): got %v, %v, want %v, %v", ticks, l, got, plain.Told(err), shares, want)
	}
}

// gaps asks for all that Gap answers.
func gaps(t *testing.T, ticks int, l []api.Span, room, gap int, want api.Errno) {
	t.Helper()
	got, err := Gap(ticks, l, room)
	if got != gap || plain.Told(err) != want {
		t.Errorf("Gap(%d, %v, %d): got %d, %v, want %d, %v", ticks, l, room, got, plain.Told(err), gap, want)
	}
}

func TestF1CheckOfTicks(t *testing.T) {
	for _, ticks := range []int{1, 2, 39, 40} {
		checked(t, ticks, nil, 0, api.OK)
		checked(t, ticks, []api.Span{}, 0, api.OK)
		checked(t, ticks, []api.Span{span(0, ticks, 4)}, 0, api.OK)
	}
	for _, ticks := range []int{math.MinInt, -1, 0, 41, 1000, math.MaxInt} {
		checked(t, ticks, nil, 0, api.ErrRange)
		checked(t, ticks, []api.Span{span(0, 1, 0)}, 0, api.ErrRange)
		// At 0, whichever span is wrong as well; and ahead of ErrFull.
		checked(t, ticks, []api.Span{span(0, 1, 0), span(0, 1, 0)}, 0, api.ErrRange)
		checked(t, ticks, singles(13), 0, api.ErrRange)
	}
}

func TestF1CheckOfTooMany(t *testing.T) {
	checked(t, 40, singles(11), 0, api.OK)
	checked(t, 40, singles(12), 0, api.OK)
	checked(t, 12, singles(12), 0, api.OK)
	checked(t, 40, singles(13), 0, api.ErrFull)
	checked(t, 40, singles(1000), 0, api.ErrFull)
	checked(t, 1, make([]api.Span, 13), 0, api.ErrFull)
	checked(t, 40, slices.Repeat([]api.Span{span(0, 1, 9)}, 13), 0, api.ErrFull)
}

// TestF1CheckOfEachNumber: a span at each place, of numbers from edge to edge; none of the others has a tick of it.
func TestF1CheckOfEachNumber(t *testing.T) {
	numbers := []int{math.MinInt, math.MinInt + 1, -40, -1, 0, 1, 3, 4, 5, 6, 38, 39, 40, 41, math.MaxInt - 1, math.MaxInt}
	for _, ticks := range []int{1, 5, 39, 40} {
		for _, from := range numbers {
			for _, to := range numbers {
				for _, room := range numbers {
					s := span(from, to, room)
					if 0 <= from && from < to && to <= ticks && 0 <= room && room <= 4 {
						checked(t, ticks, []api.Span{s}, 0, api.OK)
					} else {
						checked(t, ticks, []api.Span{s}, 0, api.ErrRange)
					}
				}
			}
		}
	}
	for at := range 12 {
		for _, s := range []api.Span{span(-1, 30, 0), span(30, 30, 0), span(31, 30, 0), span(30, 41, 0), span(30, 31, -1), span(30, 31, 5)} {
			l := singles(12)
			l[at] = s
			checked(t, 40, l, at, api.ErrRange)
		}
	}
}

func TestF1CheckOfClashes(t *testing.T) {
	ahead := span(3, 6, 2)
	for from := range 9 {
		for to := from + 1; to <= 9; to++ {
			for _, room := range []int{0, 2, 4} {
				clash := false
				for x := from; x < to; x++ {
					clash = clash || 3 <= x && x < 6
				}
				if clash {
					checked(t, 9, []api.Span{ahead, span(from, to, room)}, 1, api.ErrClash)
				} else {
					checked(t, 9, []api.Span{ahead, span(from, to, room)}, 0, api.OK)
				}
			}
		}
	}
	// Any one ahead, not the neighbour alone.
	for at := range 11 {
		l := append(singles(11), span(at, at+1, 0))
		checked(t, 40, l, 11, api.ErrClash)
	}
	checked(t, 40, []api.Span{span(0, 40, 0), span(39, 40, 0)}, 1, api.ErrClash)
	checked(t, 40, []api.Span{span(39, 40, 0), span(0, 39, 0)}, 0, api.OK)
}

// TestF1CheckTellsTheFirst: span by span, and of one span ErrRange ahead of ErrClash.
func TestF1CheckTellsTheFirst(t *testing.T) {
	right, clash, wrong := span(2, 5, 1), span(4, 6, 1), span(6, 7, 5)
	both := span(4, 6, 5)
	checked(t, 9, []api.Span{right, clash, wrong}, 1, api.ErrClash)
	checked(t, 9, []api.Span{right, wrong, clash}, 1, api.ErrRange)
	checked(t, 9, []api.Span{wrong, right, clash}, 0, api.ErrRange)
	checked(t, 9, []api.Span{right, both, clash}, 1, api.ErrRange)
	checked(t, 9, []api.Span{right, span(4, 10, 1)}, 1, api.ErrRange)
	checked(t, 9, []api.Span{right, span(6, 7, 0), span(0, 2, 0), clash, clash}, 3, api.ErrClash)
}

func TestF1Who(t *testing.T) {
	l := []api.Span{span(4, 6, 2), span(0, 2, 4), span(6, 7, 0)}
	want := []int{4, 4, -1, -1, 2, 2, 0, -1}
	for tick := range 8 * 5 {
		whose(t, 8, l, tick, want[tick%8], api.OK)
	}
	whose(t, 8, l, 8_000_000_000, 4, api.OK)
	// 2^63 - 1 is the last tick of a frame of 8.
	whose(t, 8, l, math.MaxInt, -1, api.OK)
	whose(t, 8, l, math.MaxInt-1, 0, api.OK)
	whose(t, 40, nil, math.MaxInt, -1, api.OK)
	whose(t, 1, []api.Span{span(0, 1, 3)}, math.MaxInt, 3, api.OK)
	for _, tick := range []int{math.MinInt, -8, -1} {
		whose(t, 8, l, tick, 0, api.ErrRange)
		whose(t, 1, nil, tick, 0, api.ErrRange)
	}
}

func TestF1Shares(t *testing.T) {
	shared(t, 1, nil, []int{0, 0, 0, 0, 0}, api.OK)
	shared(t, 40, []api.Span{}, []int{0, 0, 0, 0, 0}, api.OK)
	shared(t, 40, []api.Span{span(0, 40, 4)}, []int{0, 0, 0, 0, 40}, api.OK)
	shared(t, 40, []api.Span{span(0, 40, 0)}, []int{40, 0, 0, 0, 0}, api.OK)
	shared(t, 12, singles(12), []int{3, 3, 2, 2, 2}, api.OK)
	shared(t, 9, []api.Span{span(7, 9, 0), span(1, 3, 2), span(0, 1, 2), span(3, 5, 3)}, []int{2, 0, 3, 2, 0}, api.OK)
}

func TestF1Gap(t *testing.T) {
	cases := []struct {
		ticks int
		l     []api.Span
		room  int
		want  int
	}{
		{1, []api.Span{span(0, 1, 0)}, 0, 1},
		{40, []api.Span{span(0, 1, 4)}, 4, 40},
		{40, []api.Span{span(39, 40, 4)}, 4, 40},
		{40, []api.Span{span(17, 18, 1)}, 1, 40},
		{40, []api.Span{span(0, 40, 1)}, 1, 1},
		{40, []api.Span{span(1, 40, 1)}, 1, 2},
		{40, []api.Span{span(0, 39, 1)}, 1, 2},
		{40, []api.Span{span(0, 2, 1)}, 1, 39},
		// The widest is at the beginning, in the middle, at the end, and from frame to frame.
		{20, []api.Span{span(0, 1, 3), span(9, 20, 3)}, 3, 9},
		{20, []api.Span{span(9, 20, 3), span(0, 1, 3)}, 3, 9},
		{20, []api.Span{span(0, 5, 3), span(11, 20, 3)}, 3, 7},
		{20, []api.Span{span(0, 10, 3), span(18, 20, 3)}, 3, 9},
		{20, []api.Span{span(4, 10, 3), span(12, 18, 3)}, 3, 7},
		// Others between, or none, are the same; two spans of a room that touch are as one.
		{7, []api.Span{span(1, 2, 3), span(5, 7, 4), span(2, 5, 3)}, 3, 4},
		{7, []api.Span{span(1, 2, 3), span(5, 7, 4), span(2, 5, 3)}, 4, 6},
		{10, []api.Span{span(0, 1, 0), span(5, 6, 0), span(1, 5, 2)}, 0, 5},
	}
	for _, c := range cases {
		gaps(t, c.ticks, c.l, c.room, c.want, api.OK)
	}
}

func TestF1GapOfNone(t *testing.T) {
	l := []api.Span{span(1, 2, 3), span(5, 7, 0)}
	for _, room := range []int{1, 2, 4} {
		gaps(t, 7, l, room, 0, api.ErrNone)
	}
	for room := range 5 {
		gaps(t, 1, nil, room, 0, api.ErrNone)
		gaps(t, 40, nil, room, 0, api.ErrNone)
	}
	for _, room := range []int{math.MinInt, -2, -1, 5, 6, math.MaxInt} {
		gaps(t, 7, l, room, 0, api.ErrRange)
		gaps(t, 7, nil, room, 0, api.ErrRange)
	}
}

// laid makes spans of a row of rooms, one a tick, where -1 has none; those of a room that touch are one.
func laid(row []int) []api.Span {
	var l []api.Span
	for i, room := range row {
		switch {
		case room < 0:
		case len(l) > 0 && l[len(l)-1].To == i && l[len(l)-1].Room == room:
			l[len(l)-1].To++
		default:
			l = append(l, span(i, i+1, room))
		}
	}
	return l
}

// farthest goes on from each tick of a room until its next one.
func farthest(row []int, room int) int {
	most := 0
	for from, r := range row {
		if r != room {
			continue
		}
		way := 1
		for row[(from+way)%len(row)] != room {
			way++
		}
		most = max(most, way)
	}
	return most
}

// TestF1OfAllRows: all frames of up to 6 ticks of two rooms and none, their spans in either order.
func TestF1OfAllRows(t *testing.T) {
	for ticks := 1; ticks <= 6; ticks++ {
		row := make([]int, ticks)
		for n := range int(math.Pow(3, float64(ticks))) {
			counts := make([]int, 5)
			for i := range row {
				row[i] = []int{-1, 1, 4}[n%3]
				n /= 3
				if row[i] >= 0 {
					counts[row[i]]++
				}
			}
			l := laid(row)
			for range 2 {
				checked(t, ticks, l, 0, api.OK)
				shared(t, ticks, l, counts, api.OK)
				for i, room := range row {
					whose(t, ticks, l, i, room, api.OK)
					whose(t, ticks, l, i+7*ticks, room, api.OK)
				}
				for room := range 5 {
					if counts[room] == 0 {
						gaps(t, ticks, l, room, 0, api.ErrNone)
					} else {
						gaps(t, ticks, l, room, farthest(row, room), api.OK)
					}
				}
				slices.Reverse(l)
			}
		}
	}
}

// TestF1OthersHaveTheErrorOfCheck: ahead of what is wrong with a tick, or a room, and with no other answer.
func TestF1OthersHaveTheErrorOfCheck(t *testing.T) {
	cases := []struct {
		ticks int
		l     []api.Span
		want  api.Errno
	}{
		{0, nil, api.ErrRange},
		{41, nil, api.ErrRange},
		{math.MinInt, singles(13), api.ErrRange},
		{math.MaxInt, []api.Span{span(0, 1, 1)}, api.ErrRange},
		{40, singles(13), api.ErrFull},
		{4, []api.Span{span(0, 1, 1), span(1, 5, 1)}, api.ErrRange},
		{4, []api.Span{span(0, 1, 1), span(1, 4, 5)}, api.ErrRange},
		{4, []api.Span{span(0, 2, 1), span(1, 4, 1)}, api.ErrClash},
	}
	for _, c := range cases {
		shared(t, c.ticks, c.l, nil, c.want)
		for _, n := range []int{math.MinInt, -1, 0, 1, 2, 5, math.MaxInt} {
			whose(t, c.ticks, c.l, n, 0, c.want)
			gaps(t, c.ticks, c.l, n, 0, c.want)
		}
	}
}

// TestP2SpansStayAsTheyAre: neither what is handed in nor what lies behind its length is written into, or read; what comes out is fresh.
func TestP2SpansStayAsTheyAre(t *testing.T) {
	memory := []api.Span{span(4, 6, 2), span(0, 2, 4), span(0, 9, 9), span(2, 3, 1)}
	before := slices.Clone(memory)
	l := memory[:2]
	checked(t, 6, l, 0, api.OK)
	whose(t, 6, l, 2, -1, api.OK)
	gaps(t, 6, l, 1, 0, api.ErrNone)
	first, _ := Shares(6, l)
	first[0] = 77
	shared(t, 6, l, []int{0, 0, 2, 0, 2}, api.OK)
	if !slices.Equal(memory, before) {
		t.Errorf("changed to %v", memory)
	}
}
