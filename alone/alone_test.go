package alone

import (
	"math"
	"slices"
	"testing"

	"framekeep/api"
	"framekeep/plain"
	"framekeep/plan"
)

// parsed is the plan of a text.
func parsed(t *testing.T, text string) api.Plan {
	t.Helper()
	p, err := plan.Parse(text)
	if err != nil {
		t.Fatalf("Parse(%q): got %v", text, err)
	}
	return p
}

// made is a room of a plan on a machine of its own.
func made(t *testing.T, p api.Plan, room int) *Alone {
	t.Helper()
	a, err := New(p, room)
	if a == nil || err != nil {
		t.Fatalf("New(%v, %d): got %v, %v", p, room, a, err)
	}
	return a
}

// stands asks for all that can be told of a room without a step.
func stands(t *testing.T, a *Alone, want api.State, turns int) {
	t.Helper()
	if s, n := a.State(), a.Turns(); s != want || n != turns {
		t.Errorf("got %v, %d turns, want %v, %d", s, n, want, turns)
	}
}

// nothing is for a step with nothing to take.
const nothing = -1

// offer of a number, or of nothing, as Step wants it.
func offer(n int) (int, bool) { return n, n != nothing }

// stepped asks for all that a step with this offer answers: the event, and what is sent (-1: nothing).
func stepped(t *testing.T, a *Alone, got int, want api.Event, sent int) {
	t.Helper()
	e, n, err := a.Step(offer(got))
	if e != want || n != sent || err != nil {
		t.Errorf("Step of %d: got %v, %d, %v, want %v, %d", got, e, n, err, want, sent)
	}
}

// failed asks for an error of a step: nothing comes with it, and nothing is changed.
func failed(t *testing.T, a *Alone, got int) {
	t.Helper()
	s, turns := a.State(), a.Turns()
	e, n, err := a.Step(got, true)
	if e != (api.Event{}) || n != 0 || plain.Told(err) != api.ErrRange {
		t.Errorf("Step(%d, true) behind %d: got %v, %d, %v, want %v", got, turns, e, n, plain.Told(err), api.ErrRange)
	}
	stands(t, a, s, turns)
}

// outside is numbers that cannot be there to be taken.
func outside() []int { return []int{math.MinInt, -1000, -2, -1, 1000, 1001, 2000, math.MaxInt} }

// rests is code of n ops that are all right.
func rests(n int) []api.Op { return slices.Repeat([]api.Op{{What: api.Rest}}, n) }

// least is a plan of which nothing could be less.
func least() api.Plan { return api.Plan{Code: [][]api.Op{rests(1)}, Ticks: 1} }

// great is a plan with as many rooms, ops, ticks, spans and wires as there may be.
func great() api.Plan {
	p := api.Plan{Ticks: 40}
	for i := range 12 {
		p.Spans = append(p.Spans, api.Span{From: 3 * i, To: 3*i + 3, Room: i % 5})
		p.Wires = append(p.Wires, api.Wire{From: i % 5, To: (i + 1) % 5, Kind: api.Queue, Deep: 1 + i%6})
	}
	for range 5 {
		p.Code = append(p.Code, rests(20))
	}
	return p
}

// refused asks for the error of New of the greatest plan, changed: whichever room is asked for it is that of Check, and there is none.
func refused(t *testing.T, want api.Errno, change func(p *api.Plan)) {
	t.Helper()
	p := great()
	change(&p)
	for _, room := range []int{math.MinInt, -1, 0, 4, 5, math.MaxInt} {
		if a, err := New(p, room); a != nil || plain.Told(err) != want || plain.Told(plan.Check(p)) != want {
			t.Errorf("New(%v, %d): got %v, %v, want %v", p, room, a, plain.Told(err), want)
		}
	}
}

func TestA1NewIsNew(t *testing.T) {
	stands(t, made(t, least(), 0), api.State{}, 0)
	for room := range 5 {
		stands(t, made(t, great(), room), api.State{}, 0)
	}
}

// TestA1NewOfWrongPlans: of any part of the plan, also one that is not the room's own, and ahead of a room that is not there.
func TestA1NewOfWrongPlans(t *testing.T) {
	refused(t, api.ErrNone, func(p *api.Plan) { *p = api.Plan{} })
	refused(t, api.ErrNone, func(p *api.Plan) { p.Code = nil })
	refused(t, api.ErrFull, func(p *api.Plan) { p.Code = append(p.Code, rests(1)) })
	refused(t, api.ErrRange, func(p *api.Plan) { p.Ticks = 41 })
	refused(t, api.ErrFull, func(p *api.Plan) { p.Spans = append(p.Spans, api.Span{From: 39, To: 40}) })
	refused(t, api.ErrClash, func(p *api.Plan) { p.Spans[11] = api.Span{From: 2, To: 3} })
	refused(t, api.ErrFull, func(p *api.Plan) { p.Wires = append(p.Wires, p.Wires[0]) })
	refused(t, api.ErrShape, func(p *api.Plan) { p.Wires[11].To = p.Wires[11].From })
	refused(t, api.ErrRange, func(p *api.Plan) { p.Code = p.Code[:4] })
	refused(t, api.ErrNone, func(p *api.Plan) { p.Code[4] = nil })
	refused(t, api.ErrFull, func(p *api.Plan) { p.Code[4] = rests(21) })
	refused(t, api.ErrShape, func(p *api.Plan) { p.Code[0][0] = api.Op{What: api.Send, B: 1} })
	refused(t, api.ErrShape, func(p *api.Plan) { p.Code[3][0] = api.Op{What: api.Take, B: 3} })
}

// TestA1NewOfNoSuchRoom: a room is there if it has code, whether or not a span or a wire names it.
func TestA1NewOfNoSuchRoom(t *testing.T) {
	for rooms := 1; rooms <= 5; rooms++ {
		p := api.Plan{Code: slices.Repeat([][]api.Op{rests(1)}, rooms), Ticks: 1}
		for _, room := range []int{math.MinInt, -1, 0, rooms - 1, rooms, rooms + 1, 5, 1000, math.MaxInt} {
			want := api.ErrRange
			if 0 <= room && room < rooms {
				want = api.OK
			}
			if a, err := New(p, room); plain.Told(err) != want || (a == nil) != (err != nil) {
				t.Errorf("New of room %d of %d: got %v, %v, want %v", room, rooms, a, err, want)
			}
		}
	}
}

// TestA1StepByHand: ops of each kind, one behind the other, and around.
func TestA1StepByHand(t *testing.T) {
	p := parsed(t, "frame 7\nspan 0 1 0\nwire 1 0 2 1\nwire 0 1 2 1\n"+
		"room\nrest\n"+
		"room\nset 0 999\ncopy 1 0\nadd 1 0\nsub 2 0\nmul 0 0\nsend 1 0\ntake 5 1\nzero 3 9\nfail\njump 1\n")
	a := made(t, p, 1)
	steps := []struct {
		got, at, what, sent int
		then                api.State
	}{
		{nothing, 0, 0, -1, api.State{At: 1, Cells: [6]int{999}}},
		{nothing, 1, 0, -1, api.State{At: 2, Cells: [6]int{999, 999}}},
		{nothing, 2, 0, -1, api.State{At: 3, Cells: [6]int{999, 998}}},
		{nothing, 3, 0, -1, api.State{At: 4, Cells: [6]int{999, 998, 1}}},
		{77, 4, 0, -1, api.State{At: 5, Cells: [6]int{1, 998, 1}}},
		{nothing, 5, 1, 998, api.State{At: 6, Cells: [6]int{1, 998, 1}}},
		{nothing, 6, 3, -1, api.State{At: 6, Cells: [6]int{1, 998, 1}}},
		{nothing, 6, 3, -1, api.State{At: 6, Cells: [6]int{1, 998, 1}}},
		{44, 6, 2, -1, api.State{At: 7, Cells: [6]int{1, 998, 1, 0, 0, 44}}},
		{55, 7, 0, -1, api.State{At: 9, Cells: [6]int{1, 998, 1, 0, 0, 44}}},
		{nothing, 9, 0, -1, api.State{At: 1, Cells: [6]int{1, 998, 1, 0, 0, 44}}},
		{nothing, 1, 0, -1, api.State{At: 2, Cells: [6]int{1, 1, 1, 0, 0, 44}}},
	}
	for n, s := range steps {
		stepped(t, a, s.got, api.Event{Tick: n, Room: 1, At: s.at, What: s.what}, s.sent)
		stands(t, a, s.then, n+1)
	}
}

// TestA1HasAllTicks: neither the frame nor its spans say when a room steps, and each room tells its own number.
func TestA1HasAllTicks(t *testing.T) {
	for room := range 5 {
		p := great()
		p.Spans = p.Spans[:2]
		a := made(t, p, room)
		for n := range 200 {
			stepped(t, a, nothing, api.Event{Tick: n, Room: room, At: n % 20}, -1)
			stands(t, a, api.State{At: (n + 1) % 20}, n+1)
		}
	}
}

// TestA1SendsAlways: what is sent is there however often nobody took it, on a queue of one as on a sample; and 0 that is sent is not nothing.
func TestA1SendsAlways(t *testing.T) {
	for _, wire := range []string{"wire 0 1 2 1\n", "wire 0 1 1 1\n"} {
		a := made(t, parsed(t, "frame 1\n"+wire+"room\nsend 0 0\nadd 0 1\nset 1 333\nroom\nrest\n"), 0)
		cell := 0
		for n := range 100 {
			stepped(t, a, nothing, api.Event{Tick: 3 * n, What: 1}, cell)
			stepped(t, a, nothing, api.Event{Tick: 3*n + 1, At: 1}, -1)
			if n > 0 {
				cell = (cell + 333) % 1000
			}
			stepped(t, a, nothing, api.Event{Tick: 3*n + 2, At: 2}, -1)
			stands(t, a, api.State{Cells: [6]int{cell, 333}}, 3*n+3)
		}
	}
}

// TestA1SendsNoughtAndTheGreatest: both ends of what a cell may be.
func TestA1SendsNoughtAndTheGreatest(t *testing.T) {
	a := made(t, parsed(t, "frame 1\nwire 1 0 2 1\nroom\nrest\nroom\nsend 5 0\nset 5 999\nsend 5 0\nset 5 0\n"), 1)
	stepped(t, a, nothing, api.Event{Tick: 0, Room: 1, At: 0, What: 1}, 0)
	stepped(t, a, nothing, api.Event{Tick: 1, Room: 1, At: 1, What: 0}, -1)
	stepped(t, a, 999, api.Event{Tick: 2, Room: 1, At: 2, What: 1}, 999)
	stepped(t, a, 999, api.Event{Tick: 3, Room: 1, At: 3, What: 0}, -1)
	stepped(t, a, 999, api.Event{Tick: 4, Room: 1, At: 0, What: 1}, 0)
}

// TestA1Takes: each number that can be there; without one it stays at its op, and each such step counts.
func TestA1Takes(t *testing.T) {
	a := made(t, parsed(t, "frame 1\nwire 1 0 2 1\nroom\ntake 4 0\ntake 0 0\nroom\nrest\n"), 0)
	for n := range 1000 {
		stepped(t, a, n, api.Event{Tick: 4 * n, What: 2}, -1)
		stepped(t, a, nothing, api.Event{Tick: 4*n + 1, At: 1, What: 3}, -1)
		stepped(t, a, nothing, api.Event{Tick: 4*n + 2, At: 1, What: 3}, -1)
		stepped(t, a, 999-n, api.Event{Tick: 4*n + 3, At: 1, What: 2}, -1)
		stands(t, a, api.State{Cells: [6]int{0: 999 - n, 4: n}}, 4*n+4)
	}
}

// TestA1GotWithoutIs: where nothing is there, the number does not matter, be it one that may be or not.
func TestA1GotWithoutIs(t *testing.T) {
	a := made(t, parsed(t, "frame 1\nwire 1 0 2 1\nroom\ntake 4 0\nroom\nrest\n"), 0)
	for n, got := range append(outside(), 0, 1, 500, 999) {
		if e, sent, err := a.Step(got, false); e != (api.Event{Tick: n, What: 3}) || sent != -1 || err != nil {
			t.Errorf("Step(%d, false): got %v, %d, %v", got, e, sent, err)
		}
		stands(t, a, api.State{}, n+1)
	}
}

// TestA1StepOfWrongGot: at each kind of op, and of one that has failed, it is an error that counts as no step; behind it all goes on as if there had been none.
func TestA1StepOfWrongGot(t *testing.T) {
	p := parsed(t, "frame 1\nwire 1 0 2 1\nwire 0 1 2 1\n"+
		"room\nset 0 7\ncopy 1 0\nadd 1 0\nsub 2 0\nmul 0 0\nsend 1 1\ntake 5 0\nzero 3 8\njump 9\nrest\nfail\nroom\nrest\n")
	a, other := made(t, p, 0), made(t, p, 0)
	seen := map[int]int{}
	for range 14 {
		for _, got := range outside() {
			failed(t, a, got)
		}
		e, n, err := other.Step(42, true)
		if err != nil {
			t.Fatal(err)
		}
		stepped(t, a, 42, e, n)
		stands(t, a, other.State(), other.Turns())
		seen[e.What]++
	}
	for _, what := range []int{0, 1, 2, 4, 5} {
		if seen[what] == 0 {
			t.Errorf("What %d never came: %v", what, seen)
		}
	}
	// With nothing to take it is no error again.
	waits := made(t, parsed(t, "frame 1\nwire 1 0 2 1\nroom\ntake 5 0\nroom\nrest\n"), 0)
	stepped(t, waits, nothing, api.Event{What: 3}, -1)
	failed(t, waits, 1000)
	failed(t, waits, -1)
	stepped(t, waits, nothing, api.Event{Tick: 1, What: 3}, -1)
	stepped(t, waits, 999, api.Event{Tick: 2, What: 2}, -1)
	stands(t, waits, api.State{Cells: [6]int{5: 999}}, 3)
}

// TestA1Fails: it fails once, and has failed from then on, at the same op, whatever is there to be taken; its steps count on.
func TestA1Fails(t *testing.T) {
	a := made(t, parsed(t, "frame 1\nroom\nrest\nroom\nrest\nroom\nset 1 3\nfail\nset 1 4\n"), 2)
	stepped(t, a, nothing, api.Event{Room: 2}, -1)
	stepped(t, a, 5, api.Event{Tick: 1, Room: 2, At: 1, What: 4}, -1)
	stands(t, a, api.State{At: 1, Cells: [6]int{0, 3}, Failed: true}, 2)
	for n := 2; n < 100; n += 2 {
		stepped(t, a, nothing, api.Event{Tick: n, Room: 2, At: 1, What: 5}, -1)
		stepped(t, a, n, api.Event{Tick: n + 1, Room: 2, At: 1, What: 5}, -1)
		stands(t, a, api.State{At: 1, Cells: [6]int{0, 3}, Failed: true}, n+2)
	}
	// At the first op, and as the only one.
	first := made(t, parsed(t, "frame 1\nroom\nfail\n"), 0)
	stepped(t, first, 0, api.Event{What: 4}, -1)
	stepped(t, first, 0, api.Event{Tick: 1, What: 5}, -1)
	stands(t, first, api.State{Failed: true}, 2)
}

// TestNext: it is the op at which the room is, that of its own code, ahead of a step and behind a jump, while it waits, and when it has failed; asking changes nothing.
func TestNext(t *testing.T) {
	p := parsed(t, "frame 1\nwire 0 1 2 1\nroom\nsend 0 0\nroom\nset 1 2\ntake 5 0\nzero 0 4\nrest\nsub 1 2\nfail\n")
	a := made(t, p, 1)
	at := []int{0, 1, 1, 1, 2, 4, 5, 5, 5}
	for n, i := range at {
		want := p.Code[1][i]
		for range 3 {
			if got := a.Next(); got != want {
				t.Errorf("Next behind %d steps: got %v, want %v", n, got, want)
			}
		}
		if a.State().At != i || a.Turns() != n {
			t.Errorf("got %v behind %d steps, want %d behind %d", a.State(), a.Turns(), i, n)
		}
		got := nothing
		if n == 3 {
			got = 7
		}
		if _, _, err := a.Step(offer(got)); err != nil {
			t.Fatal(err)
		}
	}
	first := made(t, p, 0)
	clear(p.Code[0])
	if got := first.Next(); got != (api.Op{What: api.Send}) {
		t.Errorf("Next of the plan as it was: got %v", got)
	}
}

// TestP2PlanIsTheCallers: New writes nothing into a plan, nor behind its lists; and whoever changes the plan later changes no room.
func TestP2PlanIsTheCallers(t *testing.T) {
	text := "frame 2\nspan 0 1 0\nspan 1 2 1\nwire 0 1 2 1\nroom\nset 0 5\nsend 0 0\nroom\ntake 1 0\n"
	p := parsed(t, text)
	p.Code = append(make([][]api.Op, 0, 9), p.Code...)
	p.Spans = append(make([]api.Span, 0, 9), p.Spans...)
	p.Wires = append(make([]api.Wire, 0, 9), p.Wires...)
	p.Code[0] = append(make([]api.Op, 0, 9), p.Code[0]...)
	a, other := made(t, p, 0), made(t, parsed(t, text), 0)
	if got, err := plan.Print(p); got != text || err != nil {
		t.Errorf("the plan is %q, %v now", got, err)
	}
	if p.Code[:3][2] != nil || p.Spans[:3][2] != (api.Span{}) || p.Wires[:2][1] != (api.Wire{}) || p.Code[0][:3][2] != (api.Op{}) {
		t.Errorf("behind the lists of the plan: %v", p)
	}
	for i := range p.Code {
		for j := range p.Code[i] {
			p.Code[i][j] = api.Op{What: api.Fail}
		}
		p.Code[i] = nil
	}
	clear(p.Spans)
	clear(p.Wires)
	for range 20 {
		e, n, err := other.Step(offer(nothing))
		if err != nil {
			t.Fatal(err)
		}
		stepped(t, a, nothing, e, n)
		stands(t, a, other.State(), other.Turns())
	}
}

// TestP2RoomsAreApart: of two of one plan, be it the same room or not, neither changes the other one; nor does who writes into a state that was told.
func TestP2RoomsAreApart(t *testing.T) {
	p := parsed(t, "frame 1\nwire 1 0 2 1\nroom\ntake 0 0\nadd 1 0\nroom\nset 0 8\nsend 0 0\n")
	a, again, beside := made(t, p, 0), made(t, p, 0), made(t, p, 1)
	for n := range 9 {
		stepped(t, a, 100+n, api.Event{Tick: n, At: n % 2, What: 2 - 2*(n%2)}, -1)
		s := a.State()
		s.Cells[5], s.At, s.Failed = 1, 1, true
	}
	stands(t, a, api.State{At: 1, Cells: [6]int{108, 412}}, 9)
	stands(t, again, api.State{}, 0)
	stands(t, beside, api.State{}, 0)
	stepped(t, beside, nothing, api.Event{Room: 1}, -1)
	stands(t, again, api.State{}, 0)
}

// TestP2StateAndTurnsChangeNothing: however often they are asked.
func TestP2StateAndTurnsChangeNothing(t *testing.T) {
	a := made(t, parsed(t, "frame 1\nroom\nset 3 9\nset 3 8\n"), 0)
	for n := range 6 {
		stepped(t, a, nothing, api.Event{Tick: n, At: n % 2}, -1)
		for range 5 {
			stands(t, a, api.State{At: (n + 1) % 2, Cells: [6]int{3: 9 - n%2}}, n+1)
		}
	}
}
