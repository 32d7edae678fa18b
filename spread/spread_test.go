package spread

import (
	"math"
	"slices"
	"testing"

	"framekeep/api"
	"framekeep/plain"
	"framekeep/plan"
)

// parsed is the plan of a text.
func parsed(t *testing.T, text string) api.Plan {
	t.Helper()
	p, err := plan.Parse(text)
	if err != nil {
		t.Fatalf("Parse(%q): got %v", text, err)
	}
	return p
}

// made is a spread of a plan.
func made(t *testing.T, p api.Plan) *Spread {
	t.Helper()
	s, err := New(p)
	if s == nil || err != nil {
		t.Fatalf("New(%v): got %v, %v", p, s, err)
	}
	return s
}

// ticked asks for the event of the next tick.
func ticked(t *testing.T, s *Spread, want api.Event) {
	t.Helper()
	if got := s.Tick(); got != want {
		t.Errorf("Tick: got %v, want %v", got, want)
	}
}

// row of ticks from one on: which room has each, at which op it is, and what comes of it.
func row(t *testing.T, s *Spread, from int, events ...[3]int) {
	t.Helper()
	for n, e := range events {
		ticked(t, s, api.Event{Tick: from + n, Room: e[0], At: e[1], What: e[2]})
	}
}

// stands asks for the state of a room.
func stands(t *testing.T, s *Spread, room int, want api.State) {
	t.Helper()
	if got, err := s.State(room); got != want || err != nil {
		t.Errorf("State(%d): got %v, %v, want %v", room, got, err, want)
	}
}

// holds asks what a wire holds.
func holds(t *testing.T, s *Spread, i, lost int, items ...int) {
	t.Helper()
	got, err := s.Wire(i)
	if !slices.Equal(got.Items, items) || got.Lost != lost || err != nil {
		t.Errorf("Wire(%d): got %v, %v, want %v, %d lost", i, got, err, items, lost)
	}
}

// view is all that can be asked of a spread, or of a kernel, without a tick.
type view struct {
	rooms []api.State
	wires []api.Held
}

// asked is what tells of rooms and wires.
type asked interface {
	State(room int) (api.State, error)
	Wire(i int) (api.Held, error)
}

// seen asks for all, up to the first room and the first wire that are not there.
func seen(a asked) (v view) {
	for {
		s, err := a.State(len(v.rooms))
		if err != nil {
			break
		}
		v.rooms = append(v.rooms, s)
	}
	for {
		h, err := a.Wire(len(v.wires))
		if err != nil {
			return v
		}
		v.wires = append(v.wires, h)
	}
}

func sameHeld(a, b api.Held) bool { return a.Lost == b.Lost && slices.Equal(a.Items, b.Items) }

func (v view) same(o view) bool {
	return slices.Equal(v.rooms, o.rooms) && slices.EqualFunc(v.wires, o.wires, sameHeld)
}

// rests is code of n ops that are all right.
func rests(n int) []api.Op { return slices.Repeat([]api.Op{{What: api.Rest}}, n) }

// great is a plan with as many rooms, ops, ticks, spans and wires as there may be.
func great() api.Plan {
	p := api.Plan{Ticks: 40}
	for i := range 12 {
		p.Spans = append(p.Spans, api.Span{From: 3 * i, To: 3*i + 3, Room: i % 5})
		p.Wires = append(p.Wires, api.Wire{From: i % 5, To: (i + 1) % 5, Kind: api.Queue, Deep: 1 + i%6})
	}
	for range 5 {
		p.Code = append(p.Code, rests(20))
	}
	return p
}

func TestS1NewIsNew(t *testing.T) {
	least := made(t, api.Plan{Code: [][]api.Op{rests(1)}, Ticks: 1})
	if got := seen(least); !got.same(view{rooms: make([]api.State, 1)}) {
		t.Errorf("New of the least plan: got %v", got)
	}
	if got := seen(made(t, great())); !got.same(view{rooms: make([]api.State, 5), wires: make([]api.Held, 12)}) {
		t.Errorf("New of the greatest plan: got %v", got)
	}
}

// refused asks for the error of New of the greatest plan, changed: it is that of Check, and there is no spread.
func refused(t *testing.T, want api.Errno, change func(p *api.Plan)) {
	t.Helper()
	p := great()
	change(&p)
	if s, err := New(p); s != nil || plain.Told(err) != want || plain.Told(plan.Check(p)) != want {
		t.Errorf("New(%v): got %v, %v, want %v", p, s, plain.Told(err), want)
	}
}

func TestS1NewOfWrongPlans(t *testing.T) {
	refused(t, api.ErrNone, func(p *api.Plan) { *p = api.Plan{} })
	refused(t, api.ErrNone, func(p *api.Plan) { p.Code = nil })
	refused(t, api.ErrFull, func(p *api.Plan) { p.Code = append(p.Code, rests(1)) })
	for _, n := range []int{math.MinInt, -1, 0, 35, 41, math.MaxInt} {
		refused(t, api.ErrRange, func(p *api.Plan) { p.Ticks = n })
	}
	refused(t, api.ErrFull, func(p *api.Plan) { p.Spans = append(p.Spans, api.Span{From: 39, To: 40}) })
	refused(t, api.ErrRange, func(p *api.Plan) { p.Spans[11] = api.Span{From: 39, To: 39} })
	refused(t, api.ErrClash, func(p *api.Plan) { p.Spans[11] = api.Span{From: 2, To: 3} })
	refused(t, api.ErrFull, func(p *api.Plan) { p.Wires = append(p.Wires, p.Wires[0]) })
	refused(t, api.ErrRange, func(p *api.Plan) { p.Wires[11].Deep = 7 })
	refused(t, api.ErrShape, func(p *api.Plan) { p.Wires[11].To = p.Wires[11].From })
	refused(t, api.ErrRange, func(p *api.Plan) { p.Code = p.Code[:4] })
	refused(t, api.ErrNone, func(p *api.Plan) { p.Code[4] = nil })
	refused(t, api.ErrFull, func(p *api.Plan) { p.Code[4] = rests(21) })
	refused(t, api.ErrRange, func(p *api.Plan) { p.Code[4][19] = api.Op{What: api.Jump, B: 20} })
	refused(t, api.ErrShape, func(p *api.Plan) { p.Code[0][0] = api.Op{What: api.Send, B: 1} })
	refused(t, api.ErrShape, func(p *api.Plan) { p.Code[0][0] = api.Op{What: api.Take, B: 0} })
	refused(t, api.ErrShape, func(p *api.Plan) { p.Code[4][0] = api.Op{What: api.Send, B: 1} })
	refused(t, api.ErrFull, func(p *api.Plan) { p.Code, p.Wires[0].Deep = append(p.Code, nil), 7 })
}

// TestS1Turns: who has a tick is told from frame to frame; the events tell the spread's time, not how often a machine went; a tick that nobody has changes nothing.
func TestS1Turns(t *testing.T) {
	s := made(t, parsed(t, "frame 5\nspan 3 4 0\nspan 0 2 1\nroom\nrest\nrest\nroom\nrest\nrest\nrest\n"))
	at := [2]int{}
	for n := range 1000 {
		e := api.Event{Tick: n, Room: []int{1, 1, -1, 0, -1}[n%5]}
		if e.Room >= 0 {
			e.At = at[e.Room]
			at[e.Room] = (at[e.Room] + 1) % (2 + e.Room)
		}
		ticked(t, s, e)
		stands(t, s, 0, api.State{At: at[0]})
		stands(t, s, 1, api.State{At: at[1]})
	}
}

// TestS1Nobody: neither a plan without spans, nor a room without one, comes to anything.
func TestS1Nobody(t *testing.T) {
	s := made(t, parsed(t, "frame 3\nroom\nset 0 7\n"))
	for n := range 10 {
		ticked(t, s, api.Event{Tick: n, Room: -1})
		stands(t, s, 0, api.State{})
	}
	s = made(t, parsed(t, "frame 1\nspan 0 1 1\nroom\nset 0 7\nroom\nset 0 8\n"))
	for n := range 10 {
		ticked(t, s, api.Event{Tick: n, Room: 1})
		stands(t, s, 0, api.State{})
		stands(t, s, 1, api.State{Cells: [6]int{8}})
	}
}

// TestS1GoesOn: all ops that neither send, take nor fail come to 0.
func TestS1GoesOn(t *testing.T) {
	s := made(t, parsed(t, "frame 1\nspan 0 1 0\nroom\nset 0 999\ncopy 1 0\nadd 1 0\nsub 2 0\nmul 0 0\nrest\nzero 0 0\nzero 3 9\nfail\njump 1\n"))
	want := []api.State{
		{At: 1, Cells: [6]int{999}},
		{At: 2, Cells: [6]int{999, 999}},
		{At: 3, Cells: [6]int{999, 998}},
		{At: 4, Cells: [6]int{999, 998, 1}},
		{At: 5, Cells: [6]int{1, 998, 1}},
		{At: 6, Cells: [6]int{1, 998, 1}},
		{At: 7, Cells: [6]int{1, 998, 1}},
		{At: 9, Cells: [6]int{1, 998, 1}},
		{At: 1, Cells: [6]int{1, 998, 1}},
		{At: 2, Cells: [6]int{1, 1, 1}},
	}
	at := 0
	for n, then := range want {
		row(t, s, n, [3]int{0, at, 0})
		stands(t, s, 0, then)
		at = then.At
	}
}

// TestS1QueueOfEachDepth: so many are there, those behind are lost (3, where a machine by itself would tell 1), and the first is taken first; at each tick the sender goes on, and who has nothing to take stays.
func TestS1QueueOfEachDepth(t *testing.T) {
	for deep := 1; deep <= 6; deep++ {
		p := parsed(t, "frame 40\nspan 0 20 0\nspan 20 40 1\nwire 0 1 2 1\nroom\nsend 1 0\nset 1 7\nroom\ntake 5 0\nrest\n")
		p.Wires[0].Deep = deep
		s := made(t, p)
		items := []int{0}
		for n := range 10 {
			if n == 0 {
				row(t, s, 0, [3]int{0, 0, 1}, [3]int{0, 1, 0})
				holds(t, s, 0, 0, 0)
				continue
			}
			what, lost := 1, 0
			if n < deep {
				items = append(items, 7)
			} else {
				what, lost = 3, n-deep+1
			}
			row(t, s, 2*n, [3]int{0, 0, what}, [3]int{0, 1, 0})
			holds(t, s, 0, lost, items...)
			stands(t, s, 0, api.State{Cells: [6]int{1: 7}})
		}
		for n := range 10 {
			if n >= deep {
				row(t, s, 20+2*n, [3]int{1, 0, 3}, [3]int{1, 0, 3})
				stands(t, s, 1, api.State{Cells: [6]int{5: items[deep-1]}})
				continue
			}
			row(t, s, 20+2*n, [3]int{1, 0, 2})
			stands(t, s, 1, api.State{At: 1, Cells: [6]int{5: items[n]}})
			holds(t, s, 0, 10-deep, items[n+1:]...)
			row(t, s, 21+2*n, [3]int{1, 1, 0})
		}
	}
}

// TestS1Sample: there is nothing till one is sent; then the last one stays, and none is lost.
func TestS1Sample(t *testing.T) {
	s := made(t, parsed(t, "frame 5\nspan 0 2 1\nspan 2 5 0\nwire 0 1 1 1\nroom\nset 0 7\nsend 0 0\nset 0 0\nsend 0 0\nrest\nrest\nroom\ntake 2 0\n"))
	row(t, s, 0, [3]int{1, 0, 3}, [3]int{1, 0, 3})
	holds(t, s, 0, 0)
	row(t, s, 2, [3]int{0, 0, 0}, [3]int{0, 1, 1})
	holds(t, s, 0, 0, 7)
	row(t, s, 4, [3]int{0, 2, 0})
	for n := range 2 {
		row(t, s, 5+n, [3]int{1, 0, 2})
		stands(t, s, 1, api.State{Cells: [6]int{2: 7}})
		holds(t, s, 0, 0, 7)
	}
	row(t, s, 7, [3]int{0, 3, 1}, [3]int{0, 4, 0}, [3]int{0, 5, 0})
	holds(t, s, 0, 0, 0)
	// 0 that is there is something to take.
	row(t, s, 10, [3]int{1, 0, 2})
	stands(t, s, 1, api.State{})
	holds(t, s, 0, 0, 0)
}

// TestS1TakesWhatIsThereThen: who waits goes on with what was sent meanwhile, and a queue that was full has room again.
func TestS1TakesWhatIsThereThen(t *testing.T) {
	s := made(t, parsed(t, "frame 2\nspan 0 1 1\nspan 1 2 0\nwire 0 1 2 1\nroom\nset 0 5\nsend 0 0\nadd 0 0\njump 1\nroom\ntake 0 0\nrest\nrest\nrest\n"))
	row(t, s, 0,
		[3]int{1, 0, 3}, [3]int{0, 0, 0},
		[3]int{1, 0, 3}, [3]int{0, 1, 1},
		[3]int{1, 0, 2}, [3]int{0, 2, 0},
		[3]int{1, 1, 0}, [3]int{0, 3, 0},
		[3]int{1, 2, 0}, [3]int{0, 1, 1},
		[3]int{1, 3, 0}, [3]int{0, 2, 0},
	)
	stands(t, s, 1, api.State{Cells: [6]int{5}})
	holds(t, s, 0, 0, 10)
	row(t, s, 12,
		[3]int{1, 0, 2}, [3]int{0, 3, 0},
		[3]int{1, 1, 0}, [3]int{0, 1, 1},
		[3]int{1, 2, 0}, [3]int{0, 2, 0},
		[3]int{1, 3, 0}, [3]int{0, 3, 0},
	)
	stands(t, s, 1, api.State{Cells: [6]int{10}})
	stands(t, s, 0, api.State{At: 1, Cells: [6]int{40}})
	holds(t, s, 0, 0, 20)
}

// TestS1Wires: each op goes to the wire that it names, be there others between the same rooms, the last one too.
func TestS1Wires(t *testing.T) {
	for to := range 12 {
		p := parsed(t, "frame 4\nspan 0 3 0\nspan 3 4 1\nwire 0 1 2 1\nroom\nset 3 999\nsend 3 0\nrest\nroom\ntake 4 0\n")
		p.Wires = slices.Repeat([]api.Wire{{From: 0, To: 1, Kind: api.Queue, Deep: 1}}, 12)
		p.Code[0][1].B, p.Code[1][0].B = to, to
		s := made(t, p)
		row(t, s, 0, [3]int{0, 0, 0}, [3]int{0, 1, 1}, [3]int{0, 2, 0})
		for i := range 12 {
			if i == to {
				holds(t, s, i, 0, 999)
			} else {
				holds(t, s, i, 0)
			}
		}
		row(t, s, 3, [3]int{1, 0, 2})
		stands(t, s, 1, api.State{Cells: [6]int{4: 999}})
		for i := range 12 {
			holds(t, s, i, 0)
		}
	}
}

// TestS1Around: what goes around all rooms comes back, one more at each. Who takes a number adds to it in the next frame, and sends it in the one behind that; the next room takes it in that frame still, but room 0, whose tick is ahead of all, in the next one: eleven frames for each time around.
func TestS1Around(t *testing.T) {
	p := api.Plan{Ticks: 5}
	for r := range 5 {
		p.Spans = append(p.Spans, api.Span{From: r, To: r + 1, Room: r})
		p.Wires = append(p.Wires, api.Wire{From: r, To: (r + 1) % 5, Kind: api.Queue, Deep: 1})
		p.Code = append(p.Code, []api.Op{
			{What: api.Set, A: 1, B: 1},
			{What: api.Take, B: (r + 4) % 5},
			{What: api.Add, A: 0, B: 1},
			{What: api.Send, B: r},
			{What: api.Jump, B: 1},
		})
	}
	p.Code[0] = append([]api.Op{{What: api.Send, A: 5, B: 0}}, p.Code[0]...)
	p.Code[0][5].B = 2
	s := made(t, p)
	for range 5 * 500 {
		s.Tick()
	}
	// Room 0 added in frame 495, the 45th time; room 2 in frame 499; rooms 3 and 4 a time around ahead of that.
	for r, n := range []int{225, 226, 227, 223, 224} {
		x, err := s.State(r)
		if x.Cells[0] != n || x.Cells[1] != 1 || err != nil {
			t.Errorf("State(%d): got %v, %v, want %d", r, x, err, n)
		}
		holds(t, s, r, 0)
	}
}

// TestS1Fails: 4 at the tick at which it fails, 5 at each behind it; it stays as it is, and the others go on.
func TestS1Fails(t *testing.T) {
	s := made(t, parsed(t, "frame 3\nspan 0 2 0\nspan 2 3 1\nroom\nset 1 3\nrest\nfail\nset 1 4\nroom\nadd 0 0\nfail\n"))
	row(t, s, 0, [3]int{0, 0, 0}, [3]int{0, 1, 0}, [3]int{1, 0, 0}, [3]int{0, 2, 4})
	stands(t, s, 0, api.State{At: 2, Cells: [6]int{0, 3}, Failed: true})
	row(t, s, 4, [3]int{0, 2, 5})
	stands(t, s, 1, api.State{At: 1})
	row(t, s, 5, [3]int{1, 1, 4})
	for n := range 100 {
		row(t, s, 6+3*n, [3]int{0, 2, 5}, [3]int{0, 2, 5}, [3]int{1, 1, 5})
		stands(t, s, 0, api.State{At: 2, Cells: [6]int{0, 3}, Failed: true})
		stands(t, s, 1, api.State{At: 1, Failed: true})
	}
}

// TestS1FailsBesideWires: who failed neither takes nor sends any more: what is on its wires stays there, and what is lost counts on.
func TestS1FailsBesideWires(t *testing.T) {
	s := made(t, parsed(t, "frame 3\nspan 0 2 0\nspan 2 3 1\nwire 0 1 2 2\nwire 1 0 1 1\nroom\nsend 0 0\nroom\nsend 0 1\ntake 3 0\nfail\ntake 3 0\n"))
	row(t, s, 0, [3]int{0, 0, 1}, [3]int{0, 0, 1}, [3]int{1, 0, 1}, [3]int{0, 0, 3}, [3]int{0, 0, 3}, [3]int{1, 1, 2})
	holds(t, s, 0, 2, 0)
	row(t, s, 6, [3]int{0, 0, 1}, [3]int{0, 0, 3}, [3]int{1, 2, 4})
	for n := range 20 {
		row(t, s, 9+3*n, [3]int{0, 0, 3}, [3]int{0, 0, 3}, [3]int{1, 2, 5})
		holds(t, s, 0, 5+2*n, 0, 0)
		holds(t, s, 1, 0, 0)
	}
}

func TestS1WhatIsNotThere(t *testing.T) {
	for rooms := 1; rooms <= 5; rooms++ {
		p := api.Plan{Code: slices.Repeat([][]api.Op{rests(1)}, rooms), Ticks: 1}
		if rooms > 1 {
			p.Wires = slices.Repeat([]api.Wire{{From: 0, To: 1, Kind: api.Sample, Deep: 1}}, 4*rooms-8)
		}
		s := made(t, p)
		for _, r := range []int{math.MinInt, -1, 0, rooms - 1, rooms, 5, math.MaxInt} {
			want := api.ErrRange
			if 0 <= r && r < rooms {
				want = api.OK
			}
			if x, err := s.State(r); x != (api.State{}) || plain.Told(err) != want {
				t.Errorf("State(%d) of %d: got %v, %v, want %v", r, rooms, x, err, want)
			}
		}
		wires := len(p.Wires)
		for _, i := range []int{math.MinInt, -1, 0, wires - 1, wires, 12, math.MaxInt} {
			want := api.ErrRange
			if 0 <= i && i < wires {
				want = api.OK
			}
			if h, err := s.Wire(i); len(h.Items) != 0 || h.Lost != 0 || plain.Told(err) != want {
				t.Errorf("Wire(%d) of %d: got %v, %v, want %v", i, wires, h, err, want)
			}
		}
	}
}

// TestS1WhatIsNotThereHasNothing: no more does it when all that is there has something.
func TestS1WhatIsNotThereHasNothing(t *testing.T) {
	s := made(t, parsed(t, "frame 2\nspan 0 1 0\nspan 1 2 1\nwire 0 1 2 1\nroom\nset 0 7\nsend 0 0\nsend 0 0\nfail\nroom\nset 5 9\n"))
	for range 8 {
		s.Tick()
	}
	stands(t, s, 0, api.State{At: 3, Cells: [6]int{7}, Failed: true})
	stands(t, s, 1, api.State{Cells: [6]int{5: 9}})
	holds(t, s, 0, 1, 7)
	for _, i := range []int{math.MinInt, -1, 2, math.MaxInt} {
		if x, err := s.State(i); x != (api.State{}) || plain.Told(err) != api.ErrRange {
			t.Errorf("State(%d): got %v, %v", i, x, err)
		}
		if h, err := s.Wire(i); h.Items != nil || h.Lost != 0 || plain.Told(err) != api.ErrRange {
			t.Errorf("Wire(%d): got %v, %v", i, h, err)
		}
	}
}

// TestP2PlanIsTheCallers: New writes nothing into a plan, nor behind its lists; and whoever changes the plan later changes no spread.
func TestP2PlanIsTheCallers(t *testing.T) {
	text := "frame 2\nspan 0 1 0\nspan 1 2 1\nwire 0 1 2 1\nroom\nset 0 5\nsend 0 0\nroom\ntake 1 0\n"
	p := parsed(t, text)
	p.Code = append(make([][]api.Op, 0, 9), p.Code...)
	p.Spans = append(make([]api.Span, 0, 9), p.Spans...)
	p.Wires = append(make([]api.Wire, 0, 9), p.Wires...)
	p.Code[0] = append(make([]api.Op, 0, 9), p.Code[0]...)
	s := made(t, p)
	if got, err := plan.Print(p); got != text || err != nil {
		t.Errorf("the plan is %q, %v now", got, err)
	}
	if p.Code[:3][2] != nil || p.Spans[:3][2] != (api.Span{}) || p.Wires[:2][1] != (api.Wire{}) || p.Code[0][:3][2] != (api.Op{}) {
		t.Errorf("behind the lists of the plan: %v", p)
	}
	other := made(t, parsed(t, text))
	for i := range p.Code {
		for j := range p.Code[i] {
			p.Code[i][j] = api.Op{What: api.Fail}
		}
		p.Code[i] = nil
	}
	clear(p.Spans)
	clear(p.Wires)
	for range 20 {
		if a, b := s.Tick(), other.Tick(); a != b {
			t.Errorf("Tick: got %v, want %v", a, b)
		}
		if a, b := seen(s), seen(other); !a.same(b) {
			t.Errorf("got %v, want %v", a, b)
		}
	}
}

// TestP2HeldIsTheCallers: whoever writes into an answer changes neither the wire nor another answer; and the wire changes no answer.
func TestP2HeldIsTheCallers(t *testing.T) {
	s := made(t, parsed(t, "frame 4\nspan 0 3 0\nspan 3 4 1\nwire 0 1 2 3\nroom\nsend 0 0\nroom\ntake 0 0\n"))
	row(t, s, 0, [3]int{0, 0, 1}, [3]int{0, 0, 1})
	first, _ := s.Wire(0)
	second, _ := s.Wire(0)
	all := first.Items[:cap(first.Items)]
	for i := range all {
		all[i] = 77
	}
	holds(t, s, 0, 0, 0, 0)
	row(t, s, 2, [3]int{0, 0, 1}, [3]int{1, 0, 2})
	holds(t, s, 0, 0, 0, 0)
	if !slices.Equal(second.Items, []int{0, 0}) {
		t.Errorf("another answer is %v now", second)
	}
}

// TestP2SpreadsAreApart: of two of one plan neither changes the other one; nor does who writes into a state that was told; and asking changes nothing.
func TestP2SpreadsAreApart(t *testing.T) {
	p := parsed(t, "frame 1\nspan 0 1 0\nwire 0 1 2 2\nroom\nsend 0 0\nset 0 6\nroom\nrest\n")
	a, b := made(t, p), made(t, p)
	want := seen(b)
	for range 9 {
		a.Tick()
		x, _ := a.State(0)
		x.Cells[0], x.Failed = 3, true
	}
	if got := seen(b); !got.same(want) {
		t.Errorf("got %v, want %v", got, want)
	}
	stands(t, a, 0, api.State{At: 1, Cells: [6]int{6}})
	holds(t, a, 0, 3, 0, 6)
	row(t, b, 0, [3]int{0, 0, 1}, [3]int{0, 1, 0})
	row(t, a, 9, [3]int{0, 1, 0})
}
