package log

import (
	"math"
	"slices"
	"testing"

	"framekeep/api"
	"framekeep/kernel"
	"framekeep/plain"
	"framekeep/plan"
)

// tally is a plan of a room that adds its cell 1 to its cell 0 at each tick, and of one that never has a tick.
const tally = "frame 1\nspan 0 1 0\nroom\nadd 0 1\nroom\nrest\n"

// busy is a plan of two rooms that send to each other: one fails, and what it would take is lost then.
const busy = "frame 4\nspan 0 2 0\nspan 2 3 1\nwire 0 1 2 2\nwire 1 0 1 1\n" +
	"room\nset 0 7\nsend 0 0\nadd 0 0\njump 1\nroom\ntake 5 0\nsend 5 1\nfail\n"

// parsed is the plan of a text.
func parsed(t *testing.T, text string) api.Plan {
	t.Helper()
	p, err := plan.Parse(text)
	if err != nil {
		t.Fatalf("Parse(%q): got %v", text, err)
	}
	return p
}

// made is a log of a text's plan.
func made(t *testing.T, text string) *Log {
	t.Helper()
	l, err := New(parsed(t, text))
	if l == nil || err != nil {
		t.Fatalf("New of %q: got %v, %v", text, l, err)
	}
	return l
}

// act is a call: of no number Sync, of one Go, of three Poke.
type act []int

// told does an act, and gives what it tells.
func told(l *Log, a act) api.Errno {
	switch len(a) {
	case 0:
		return plain.Told(l.Sync())
	case 1:
		return plain.Told(l.Go(a[0]))
	}
	return plain.Told(l.Poke(a[0], a[1], a[2]))
}

// acted asks what acts tell.
func acted(t *testing.T, l *Log, want api.Errno, acts ...act) {
	t.Helper()
	for _, a := range acts {
		if got := told(l, a); got != want {
			t.Errorf("%v at %d: got %v, want %v", a, l.Time(), got, want)
		}
	}
}

// long is how many bytes the record of an act has, by itself in a new log.
func long(t *testing.T, text string, a act) int {
	t.Helper()
	l := made(t, text)
	acted(t, l, api.OK, a)
	return l.Bytes()
}

// view is all that can be asked of a log.
type view struct {
	time, bytes, safe int
	rooms             []api.State
}

// seen asks a log for all, up to the first room that is not there.
func seen(l *Log) view {
	v := view{time: l.Time(), bytes: l.Bytes(), safe: l.Safe()}
	for {
		s, err := l.State(len(v.rooms))
		if err != nil {
			return v
		}
		v.rooms = append(v.rooms, s)
	}
}

func (v view) same(o view) bool {
	return v.time == o.time && v.bytes == o.bytes && v.safe == o.safe && slices.Equal(v.rooms, o.rooms)
}

// looks asks a log for all.
func looks(t *testing.T, l *Log, want view) {
	t.Helper()
	if got := seen(l); !got.same(want) {
		t.Errorf("got %v, want %v", got, want)
	}
}

// stands asks for the time, and the first cells of room 0.
func stands(t *testing.T, l *Log, time int, cells ...int) {
	t.Helper()
	s, err := l.State(0)
	if l.Time() != time || !slices.Equal(s.Cells[:len(cells)], cells) || err != nil {
		t.Errorf("got %d, %v, %v, want %d, %v", l.Time(), s, err, time, cells)
	}
}

// rests is code of n ops that are all right.
func rests(n int) []api.Op { return slices.Repeat([]api.Op{{What: api.Rest}}, n) }

// great is a plan with as many rooms, ops, ticks, spans and wires as there may be.
func great() api.Plan {
	p := api.Plan{Ticks: 40}
	for i := range 12 {
		p.Spans = append(p.Spans, api.Span{From: 3 * i, To: 3*i + 3, Room: i % 5})
		p.Wires = append(p.Wires, api.Wire{From: i % 5, To: (i + 1) % 5, Kind: api.Queue, Deep: 1 + i%6})
	}
	for range 5 {
		p.Code = append(p.Code, rests(20))
	}
	return p
}

func TestL1NewIsNew(t *testing.T) {
	least, err := New(api.Plan{Code: [][]api.Op{rests(1)}, Ticks: 1})
	if err != nil {
		t.Fatal(err)
	}
	looks(t, least, view{rooms: make([]api.State, 1)})
	l, err := New(great())
	if err != nil {
		t.Fatal(err)
	}
	looks(t, l, view{rooms: make([]api.State, 5)})
}

// TestL1NewOfWrongPlans: the error is that of a kernel, and there is no log.
func TestL1NewOfWrongPlans(t *testing.T) {
	cases := []struct {
		want   api.Errno
		change func(p *api.Plan)
	}{
		{api.ErrNone, func(p *api.Plan) { *p = api.Plan{} }},
		{api.ErrNone, func(p *api.Plan) { p.Code = nil }},
		{api.ErrFull, func(p *api.Plan) { p.Code = append(p.Code, rests(1)) }},
		{api.ErrRange, func(p *api.Plan) { p.Ticks = 0 }},
		{api.ErrRange, func(p *api.Plan) { p.Ticks = 41 }},
		{api.ErrFull, func(p *api.Plan) { p.Spans = append(p.Spans, api.Span{From: 39, To: 40}) }},
		{api.ErrClash, func(p *api.Plan) { p.Spans[11] = api.Span{From: 2, To: 3} }},
		{api.ErrShape, func(p *api.Plan) { p.Wires[11].To = p.Wires[11].From }},
		{api.ErrNone, func(p *api.Plan) { p.Code[4] = nil }},
		{api.ErrShape, func(p *api.Plan) { p.Code[0][0] = api.Op{What: api.Send, B: 1} }},
	}
	for _, c := range cases {
		p := great()
		c.change(&p)
		_, kernels := kernel.New(p)
		if l, err := New(p); l != nil || plain.Told(err) != c.want || plain.Told(kernels) != c.want {
			t.Errorf("New(%v): got %v, %v, want %v", p, l, plain.Told(err), c.want)
		}
	}
}

// TestL1ByHand: so many ticks, and cells that are poked between, one behind the other.
func TestL1ByHand(t *testing.T) {
	l := made(t, tally)
	acted(t, l, api.OK, act{3})
	stands(t, l, 3, 0, 0)
	acted(t, l, api.OK, act{0, 1, 5})
	stands(t, l, 3, 0, 5)
	acted(t, l, api.OK, act{4}, act{})
	stands(t, l, 7, 20, 5)
	acted(t, l, api.OK, act{0, 1, 100}, act{0}, act{1}, act{0, 0, 999}, act{2})
	stands(t, l, 10, 199, 100)
	acted(t, l, api.OK, act{1, 5, 998})
	if s, err := l.State(1); s != (api.State{Cells: [6]int{5: 998}}) || err != nil {
		t.Errorf("State(1): got %v, %v", s, err)
	}
	l = made(t, busy)
	for _, c := range []struct {
		ticks       int
		first, last api.State
	}{
		{1, api.State{At: 1, Cells: [6]int{7}}, api.State{}},
		{2, api.State{At: 2, Cells: [6]int{7}}, api.State{At: 1, Cells: [6]int{5: 7}}},
		{2, api.State{At: 3, Cells: [6]int{14}}, api.State{At: 1, Cells: [6]int{5: 7}}},
		{6, api.State{At: 3, Cells: [6]int{28}}, api.State{At: 2, Cells: [6]int{5: 7}, Failed: true}},
		{22, api.State{At: 2, Cells: [6]int{224}}, api.State{At: 2, Cells: [6]int{5: 7}, Failed: true}},
	} {
		v := seen(l)
		acted(t, l, api.OK, act{c.ticks})
		looks(t, l, view{time: v.time + c.ticks, bytes: l.Bytes(), rooms: []api.State{c.first, c.last}})
	}
}

// TestL1Records: of each act that may be at least two bytes are there, behind those that are; none of them is safe without a Sync.
func TestL1Records(t *testing.T) {
	var acts []act
	for n := range 101 {
		acts = append(acts, act{n})
	}
	for n := range 1000 {
		acts = append(acts, act{n % 2, n % 6, n})
	}
	l := made(t, tally)
	for _, a := range acts {
		if l.Time() > 1900 {
			l.Crash(0)
		}
		ahead := l.Bytes()
		acted(t, l, api.OK, a)
		if l.Bytes() < ahead+2 || l.Bytes() != ahead+long(t, tally, a) || l.Safe() != 0 {
			t.Errorf("%v: %d bytes ahead, then %d, of which %d are safe", a, ahead, l.Bytes(), l.Safe())
		}
	}
}

// TestL1GoOfWrongNumbers: nothing is changed by them; a number that may not be is told ahead of a time that is too late.
func TestL1GoOfWrongNumbers(t *testing.T) {
	l := made(t, tally)
	wrong := []act{{math.MinInt}, {-101}, {-1}, {101}, {2000}, {math.MaxInt}}
	acted(t, l, api.OK, act{0, 1, 1}, act{0}, act{100}, act{1}, act{99})
	stands(t, l, 200, 200)
	v := seen(l)
	acted(t, l, api.ErrRange, wrong...)
	looks(t, l, v)
	acted(t, l, api.OK, slices.Repeat([]act{{100}}, 17)...)
	acted(t, l, api.OK, act{50})
	stands(t, l, 1950, 950)
	v = seen(l)
	acted(t, l, api.ErrFull, act{51}, act{99}, act{100})
	acted(t, l, api.ErrRange, wrong...)
	looks(t, l, v)
	acted(t, l, api.OK, act{49}, act{0}, act{1}, act{0})
	stands(t, l, 2000, 0)
	v = seen(l)
	acted(t, l, api.ErrFull, act{1}, act{2}, act{100})
	acted(t, l, api.ErrRange, wrong...)
	looks(t, l, v)
	acted(t, l, api.OK, act{0}, act{}, act{0, 0, 7})
	stands(t, l, 2000, 7)
}

// wrongPokes is pokes of which one number or more may not be, where there are two rooms.
func wrongPokes() []act {
	edges := func(last, bound int) []int { return []int{0, last, math.MinInt, -1, bound, math.MaxInt} }
	var out []act
	for i, r := range edges(1, 2) {
		for j, cell := range edges(5, 6) {
			for k, n := range edges(999, 1000) {
				if max(i, j, k) >= 2 {
					out = append(out, act{r, cell, n})
				}
			}
		}
	}
	return out
}

// TestL1Poke: one cell is another number, at each edge; nothing is changed by numbers that may not be.
func TestL1Poke(t *testing.T) {
	l := made(t, tally)
	acted(t, l, api.OK, act{0, 1, 3}, act{2})
	v := seen(l)
	for _, r := range []int{0, 1} {
		for _, cell := range []int{0, 5} {
			for _, n := range []int{999, 0, 1} {
				a := act{r, cell, n}
				acted(t, l, api.OK, a)
				v.rooms[r].Cells[cell] = n
				v.bytes += long(t, tally, a)
				looks(t, l, v)
			}
		}
	}
	acted(t, l, api.ErrRange, wrongPokes()...)
	looks(t, l, v)
}

// TestL1State: only of a room that is there.
func TestL1State(t *testing.T) {
	l := made(t, tally)
	for _, r := range []int{math.MinInt, -1, 2, 5, math.MaxInt} {
		if s, err := l.State(r); s != (api.State{}) || plain.Told(err) != api.ErrRange {
			t.Errorf("State(%d): got %v, %v", r, s, err)
		}
	}
}

// TestL1Sync: all that is there then is safe, and what comes behind it is not.
func TestL1Sync(t *testing.T) {
	l := made(t, tally)
	acted(t, l, api.OK, act{}, act{5}, act{0, 1, 2})
	v := seen(l)
	acted(t, l, api.OK, act{})
	v.safe = v.bytes
	looks(t, l, v)
	acted(t, l, api.OK, act{})
	looks(t, l, v)
	acted(t, l, api.OK, act{1})
	if l.Safe() != v.bytes || l.Bytes() <= v.bytes {
		t.Errorf("%d of %d bytes are safe, want %d", l.Safe(), l.Bytes(), v.bytes)
	}
	acted(t, l, api.OK, act{})
	if l.Safe() != l.Bytes() {
		t.Errorf("%d of %d bytes are safe", l.Safe(), l.Bytes())
	}
}

// twelve acts that may be, each of which is a step: ahead of each a call is made that is refused, if it is a Go or a Poke, and what that told is handed on with the act.
func twelve(l *Log, handOn func(n int, a act, refused api.Errno)) {
	acts := []act{{0}, {0, 1, 3}, {}, {7}, {}, {}, {1, 5, 999}, {100}, {0, 0, 10}, {12}, {}, {0}}
	for n, a := range acts {
		refused := api.ErrRange
		switch len(a) {
		case 1:
			refused = told(l, act{101})
		case 3:
			refused = told(l, act{-1, 0, 0})
		}
		handOn(n, a, refused)
	}
}

// TestL1FailAtEachStep: what is refused is no step; the step at which it stops says so, half of its record is there, a Sync does nothing, and all else is as it was ahead of it.
func TestL1FailAtEachStep(t *testing.T) {
	for at := range 14 {
		l := made(t, tally)
		l.Fail(at)
		twelve(l, func(n int, a act, refused api.Errno) {
			v := seen(l)
			want := api.OK
			if n >= at {
				want = api.ErrState
			}
			if n > at && refused != api.ErrState && len(a) > 0 || n <= at && refused != api.ErrRange {
				t.Errorf("Fail(%d), ahead of step %d: got %v", at, n, refused)
			}
			acted(t, l, want, a)
			if n == at && len(a) > 0 {
				v.bytes += long(t, tally, a) / 2
			}
			if n >= at {
				looks(t, l, v)
			}
		})
	}
}

// TestL1FailOfFullTime: what would be too late comes to no record, and is no step.
func TestL1FailOfFullTime(t *testing.T) {
	l := made(t, tally)
	acted(t, l, api.OK, slices.Repeat([]act{{100}}, 20)...)
	l.Fail(1)
	acted(t, l, api.ErrFull, act{1}, act{100}, act{1})
	acted(t, l, api.OK, act{0})
	acted(t, l, api.ErrFull, act{1})
	acted(t, l, api.ErrState, act{0}, act{1}, act{100})
}

// TestL1FailIsReplaced: the last one counts, from where it was said; below 0 it never stops.
func TestL1FailIsReplaced(t *testing.T) {
	for _, c := range []struct {
		fails []int
		taken int
	}{
		{[]int{0}, 0}, {[]int{1}, 1}, {[]int{2}, 2}, {[]int{50}, 50},
		{[]int{0, 3}, 3}, {[]int{3, 0}, 0}, {[]int{5, 1}, 1}, {[]int{-1, 2}, 2},
		{nil, -1}, {[]int{-1}, -1}, {[]int{math.MinInt}, -1}, {[]int{0, -1}, -1}, {[]int{2, -7}, -1}, {[]int{0, math.MinInt}, -1},
		{[]int{math.MaxInt}, -1},
	} {
		l := made(t, tally)
		for _, n := range c.fails {
			l.Fail(n)
		}
		for n := range 60 {
			want := api.OK
			if c.taken >= 0 && n >= c.taken {
				want = api.ErrState
			}
			acted(t, l, want, []act{{1}, {}, {0, 1, n}}[n%3])
		}
	}
	l := made(t, tally)
	l.Fail(3)
	acted(t, l, api.OK, act{1}, act{})
	l.Fail(2)
	acted(t, l, api.OK, act{1}, act{})
	acted(t, l, api.ErrState, act{})
}

// TestL1Stopped: it says so ahead of all else, nothing is changed any more, and what Fail says does not wake it.
func TestL1Stopped(t *testing.T) {
	for _, last := range []act{{9}, {0, 1, 8}, {}} {
		l := made(t, tally)
		acted(t, l, api.OK, act{0, 1, 3}, act{}, act{4})
		l.Fail(0)
		acted(t, l, api.ErrState, last)
		v := seen(l)
		for _, n := range []int{math.MinInt, -1, 0, 1, 7, math.MaxInt} {
			acted(t, l, api.ErrState, act{0}, act{1}, act{-1}, act{101}, act{math.MinInt}, act{math.MaxInt}, act{}, act{0, 1, 1})
			acted(t, l, api.ErrState, wrongPokes()...)
			looks(t, l, v)
			l.Fail(n)
			looks(t, l, v)
		}
		stands(t, l, 4, 12, 3)
	}
}

// TestL2CrashKeepsSoManyBytes: of each number of bytes that is kept those records are left that are whole, and it is as if no more had been done.
func TestL2CrashKeepsSoManyBytes(t *testing.T) {
	acts := []act{{2}, {0, 1, 5}, {10}, {0}, {0, 0, 999}, {0, 1, 12}, {100}, {1, 5, 1}}
	for safe := range len(acts) + 1 {
		all := 0
		for _, a := range acts[safe:] {
			all += long(t, tally, a)
		}
		for _, keep := range append([]int{math.MinInt, math.MinInt + 1, -1, all + 1, math.MaxInt - 1, math.MaxInt}, upTo(all)...) {
			l, want := made(t, tally), made(t, tally)
			acted(t, l, api.OK, acts[:safe]...)
			acted(t, l, api.OK, act{})
			acted(t, l, api.OK, acts[safe:]...)
			acted(t, want, api.OK, acts[:safe]...)
			left := keep
			for _, a := range acts[safe:] {
				if left < long(t, tally, a) {
					break
				}
				left -= long(t, tally, a)
				acted(t, want, api.OK, a)
			}
			acted(t, want, api.OK, act{})
			l.Crash(keep)
			looks(t, l, seen(want))
			// It goes on as the other one does.
			acted(t, l, api.OK, act{3}, act{0, 1, 7}, act{1})
			acted(t, want, api.OK, act{3}, act{0, 1, 7}, act{1})
			looks(t, l, seen(want))
		}
	}
}

// upTo is 0 to a number.
func upTo(last int) []int {
	var out []int
	for n := range last + 1 {
		out = append(out, n)
	}
	return out
}

// TestL2CrashByHand: without a Sync nothing is left, or all.
func TestL2CrashByHand(t *testing.T) {
	l := made(t, busy)
	acted(t, l, api.OK, act{5}, act{1, 5, 70}, act{6})
	v := view{time: 11, bytes: l.Bytes(), safe: l.Bytes(), rooms: []api.State{
		{At: 3, Cells: [6]int{28}}, {At: 2, Cells: [6]int{5: 70}, Failed: true},
	}}
	l.Crash(math.MaxInt)
	looks(t, l, v)
	acted(t, l, api.OK, act{0, 0, 1}, act{100})
	l.Crash(-1)
	looks(t, l, v)
	l.Crash(0)
	looks(t, l, v)
	l = made(t, busy)
	l.Crash(0)
	looks(t, l, view{rooms: make([]api.State, 2)})
	acted(t, l, api.OK, act{5}, act{1, 5, 70}, act{6})
	l.Crash(0)
	looks(t, l, view{rooms: make([]api.State, 2)})
	acted(t, l, api.OK, act{5}, act{1, 5, 70}, act{6})
	l.Crash(v.bytes)
	looks(t, l, v)
}

// TestL2EachRecordIsWhole: each one that may be is lost with its last byte, is left with it, and does again what it did.
func TestL2EachRecordIsWhole(t *testing.T) {
	ask := func(a act) {
		t.Helper()
		many := long(t, tally, a)
		for keep := range many + 1 {
			l := made(t, tally)
			acted(t, l, api.OK, act{0, 1, 1}, act{}, a)
			done := seen(l)
			l.Crash(keep)
			if keep == many {
				done.safe = done.bytes
				looks(t, l, done)
			} else if l.Bytes() != done.safe || l.Safe() != done.safe || l.Time() != 0 {
				t.Errorf("%v: %d of %d bytes kept: got %v", a, keep, many, seen(l))
			}
		}
	}
	for n := range 101 {
		ask(act{n})
	}
	for n := range 1000 {
		ask(act{n % 2, n / 2 % 6, n})
	}
}

// TestL2HalfARecordIsGone: how many bytes are kept does not matter to it, nor is it in the way of what comes behind.
func TestL2HalfARecordIsGone(t *testing.T) {
	for _, last := range []act{{0}, {9}, {10}, {100}, {0, 1, 8}, {1, 5, 999}} {
		for _, keep := range []int{math.MinInt, -1, 0, 1, 2, 3, 1000, math.MaxInt} {
			l := made(t, tally)
			acted(t, l, api.OK, act{0, 1, 3}, act{4}, act{})
			v := seen(l)
			l.Fail(0)
			acted(t, l, api.ErrState, last)
			if l.Bytes() != v.bytes+long(t, tally, last)/2 || l.Safe() != v.safe {
				t.Errorf("half of %v: %d bytes are there, %d safe, ahead %v", last, l.Bytes(), l.Safe(), v)
			}
			l.Crash(keep)
			looks(t, l, v)
			acted(t, l, api.OK, act{2}, act{}, act{0, 0, 1})
			l.Crash(0)
			stands(t, l, 6, 18, 3)
		}
	}
	// Whole ones ahead of it are left, if so many bytes are kept.
	l := made(t, tally)
	acted(t, l, api.OK, act{0, 1, 3}, act{4})
	v := seen(l)
	l.Fail(0)
	acted(t, l, api.ErrState, act{5})
	l.Crash(math.MaxInt)
	v.safe = v.bytes
	looks(t, l, v)
}

// TestL2CrashForgetsFail: what it said is not said any more, whether it has stopped or not.
func TestL2CrashForgetsFail(t *testing.T) {
	for _, n := range []int{0, 1, 2, 3, 5, -1} {
		l := made(t, tally)
		acted(t, l, api.OK, act{1})
		l.Fail(n)
		l.Crash(0)
		acted(t, l, api.OK, act{1}, act{}, act{0, 1, 1}, act{1}, act{}, act{1})
		l.Fail(0)
		acted(t, l, api.ErrState, act{})
		l.Fail(n)
		l.Crash(0)
		acted(t, l, api.OK, act{1}, act{}, act{0, 1, 1}, act{1}, act{}, act{1})
	}
	// A Sync that failed has kept nothing.
	l := made(t, tally)
	acted(t, l, api.OK, act{3}, act{}, act{4})
	l.Fail(0)
	acted(t, l, api.ErrState, act{})
	l.Crash(0)
	stands(t, l, 3)
}

// TestL2TimeIsThatOfTheNewKernel: what was lost may be done again, though the time had come to its end.
func TestL2TimeIsThatOfTheNewKernel(t *testing.T) {
	l := made(t, tally)
	acted(t, l, api.OK, slices.Repeat([]act{{100}}, 19)...)
	acted(t, l, api.OK, act{}, act{100})
	acted(t, l, api.ErrFull, act{1})
	l.Crash(0)
	acted(t, l, api.OK, act{99})
	acted(t, l, api.ErrFull, act{2})
	acted(t, l, api.OK, act{1})
	stands(t, l, 2000)
	l.Crash(math.MaxInt)
	stands(t, l, 2000)
	acted(t, l, api.ErrFull, act{1})
}

// TestP2PlanIsTheCallers: New writes nothing into a plan, nor behind its lists; and whoever changes the plan later changes no log, nor what comes of a crash.
func TestP2PlanIsTheCallers(t *testing.T) {
	p := parsed(t, busy)
	p.Code = append(make([][]api.Op, 0, 9), p.Code...)
	p.Spans = append(make([]api.Span, 0, 9), p.Spans...)
	p.Wires = append(make([]api.Wire, 0, 9), p.Wires...)
	p.Code[0] = append(make([]api.Op, 0, 9), p.Code[0]...)
	l, err := New(p)
	if err != nil {
		t.Fatal(err)
	}
	acted(t, l, api.OK, act{11}, act{10})
	l.Crash(long(t, busy, act{11}))
	v := seen(l)
	if got, err := plan.Print(p); got != busy || err != nil {
		t.Errorf("the plan is %q, %v now", got, err)
	}
	if p.Code[:3][2] != nil || p.Spans[:3][2] != (api.Span{}) || p.Wires[:3][2] != (api.Wire{}) || p.Code[0][:5][4] != (api.Op{}) {
		t.Errorf("behind the lists of the plan: %v", p)
	}
	crashed := func() {
		t.Helper()
		acted(t, l, api.OK, act{5})
		l.Crash(0)
		looks(t, l, v)
	}
	// Another plan that may be, then one that may not.
	p.Code[0][0].B, p.Code[1][1] = 9, api.Op{What: api.Rest}
	crashed()
	p.Spans[0].Room, p.Spans[1].Room = 1, 0
	crashed()
	p.Wires[0].Deep = 1
	crashed()
	clear(p.Wires)
	crashed()
	clear(p.Spans)
	crashed()
	clear(p.Code[0])
	crashed()
	clear(p.Code)
	crashed()
}

// TestP2LogsAreApart: of two of one plan neither changes the other one.
func TestP2LogsAreApart(t *testing.T) {
	p := parsed(t, tally)
	a, _ := New(p)
	b, _ := New(p)
	acted(t, b, api.OK, act{0, 1, 2}, act{}, act{3})
	v := seen(b)
	acted(t, a, api.OK, act{0, 1, 7}, act{}, act{5}, act{0, 1, 9})
	a.Fail(0)
	looks(t, b, v)
	acted(t, b, api.OK, act{0})
	acted(t, a, api.ErrState, act{0})
	b.Crash(0)
	stands(t, b, 0, 0, 2)
	a.Crash(0)
	stands(t, a, 0, 0, 7)
}
