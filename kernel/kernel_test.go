package kernel

import (
	"math"
	"slices"
	"testing"

	"framekeep/api"
	"framekeep/plain"
	"framekeep/plan"
)

// parsed is the plan of a text.
func parsed(t *testing.T, text string) api.Plan {
	t.Helper()
	p, err := plan.Parse(text)
	if err != nil {
		t.Fatalf("Parse(%q): got %v", text, err)
	}
	return p
}

// made is a kernel of a text's plan.
func made(t *testing.T, text string) *Kernel {
	t.Helper()
	k, err := New(parsed(t, text))
	if k == nil || err != nil {
		t.Fatalf("New of %q: got %v, %v", text, k, err)
	}
	return k
}

// ticked asks for the event of the next tick, and the time around it.
func ticked(t *testing.T, k *Kernel, want api.Event) {
	t.Helper()
	if got := k.Time(); got != want.Tick {
		t.Errorf("Time ahead of %v: got %d", want, got)
	}
	if got := k.Tick(); got != want {
		t.Errorf("Tick: got %v, want %v", got, want)
	}
	if got := k.Time(); got != want.Tick+1 {
		t.Errorf("Time behind %v: got %d", want, got)
	}
}

// ticks of which one room has each: at which op it is, and what comes of it.
func ticks(t *testing.T, k *Kernel, room int, pairs ...[2]int) {
	t.Helper()
	for _, p := range pairs {
		ticked(t, k, api.Event{Tick: k.Time(), Room: room, At: p[0], What: p[1]})
	}
}

// stands asks for the state of a room.
func stands(t *testing.T, k *Kernel, room int, want api.State) {
	t.Helper()
	if got, err := k.State(room); got != want || err != nil {
		t.Errorf("State(%d) at %d: got %v, %v, want %v", room, k.Time(), got, err, want)
	}
}

// holds asks what a wire holds.
func holds(t *testing.T, k *Kernel, i, lost int, items ...int) {
	t.Helper()
	got, err := k.Wire(i)
	if !slices.Equal(got.Items, items) || got.Lost != lost || err != nil {
		t.Errorf("Wire(%d) at %d: got %v, %v, want %v, %d lost", i, k.Time(), got, err, items, lost)
	}
}

// poked asks what Poke tells, and CheckPoke ahead of it, which changes nothing.
func poked(t *testing.T, k *Kernel, room, cell, n int, want api.Errno) {
	t.Helper()
	ahead := seen(k)
	if got := plain.Told(k.CheckPoke(room, cell, n)); got != want || !seen(k).same(ahead) {
		t.Errorf("CheckPoke(%d, %d, %d): got %v, want %v; %v is %v now", room, cell, n, got, want, ahead, seen(k))
	}
	if got := plain.Told(k.Poke(room, cell, n)); got != want {
		t.Errorf("Poke(%d, %d, %d): got %v, want %v", room, cell, n, got, want)
	}
}

// view is all that can be asked of a kernel.
type view struct {
	time  int
	rooms []api.State
	wires []api.Held
}

// seen asks a kernel for all, up to the first room and the first wire that are not there.
func seen(k *Kernel) view {
	v := view{time: k.Time()}
	for {
		s, err := k.State(len(v.rooms))
		if err != nil {
			break
		}
		v.rooms = append(v.rooms, s)
	}
	for {
		h, err := k.Wire(len(v.wires))
		if err != nil {
			break
		}
		v.wires = append(v.wires, h)
	}
	return v
}

func sameHeld(a, b api.Held) bool { return a.Lost == b.Lost && slices.Equal(a.Items, b.Items) }

func (v view) same(o view) bool {
	return v.time == o.time && slices.Equal(v.rooms, o.rooms) && slices.EqualFunc(v.wires, o.wires, sameHeld)
}

// rests is code of n ops that are all right.
func rests(n int) []api.Op { return slices.Repeat([]api.Op{{What: api.Rest}}, n) }

// great is a plan with as many rooms, ops, ticks, spans and wires as there may be.
func great() api.Plan {
	p := api.Plan{Ticks: 40}
	for i := range 12 {
		p.Spans = append(p.Spans, api.Span{From: 3 * i, To: 3*i + 3, Room: i % 5})
		p.Wires = append(p.Wires, api.Wire{From: i % 5, To: (i + 1) % 5, Kind: api.Queue, Deep: 1 + i%6})
	}
	for range 5 {
		p.Code = append(p.Code, rests(20))
	}
	return p
}

func TestK1NewIsAllNew(t *testing.T) {
	least, err := New(api.Plan{Code: [][]api.Op{rests(1)}, Ticks: 1})
	if err != nil || !seen(least).same(view{rooms: make([]api.State, 1)}) {
		t.Errorf("New of the least plan: got %v, %v", seen(least), err)
	}
	k, err := New(great())
	if err != nil || !seen(k).same(view{rooms: make([]api.State, 5), wires: make([]api.Held, 12)}) {
		t.Errorf("New of the greatest plan: got %v, %v", seen(k), err)
	}
}

// refused asks for the error of New of the greatest plan, changed: it is that of Check, and there is no kernel.
func refused(t *testing.T, want api.Errno, change func(p *api.Plan)) {
	t.Helper()
	p := great()
	change(&p)
	if k, err := New(p); k != nil || plain.Told(err) != want || plain.Told(plan.Check(p)) != want {
		t.Errorf("New(%v): got %v, %v, want %v", p, k, plain.Told(err), want)
	}
}

func TestK1NewOfWrongPlans(t *testing.T) {
	refused(t, api.ErrNone, func(p *api.Plan) { *p = api.Plan{} })
	refused(t, api.ErrNone, func(p *api.Plan) { p.Code = nil })
	refused(t, api.ErrFull, func(p *api.Plan) { p.Code = append(p.Code, rests(1)) })
	for _, n := range []int{math.MinInt, -1, 0, 35, 41, math.MaxInt} {
		refused(t, api.ErrRange, func(p *api.Plan) { p.Ticks = n })
	}
	refused(t, api.ErrFull, func(p *api.Plan) { p.Spans = append(p.Spans, api.Span{From: 39, To: 40}) })
	refused(t, api.ErrRange, func(p *api.Plan) { p.Spans[11] = api.Span{From: 39, To: 39} })
	refused(t, api.ErrClash, func(p *api.Plan) { p.Spans[11] = api.Span{From: 2, To: 3} })
	refused(t, api.ErrFull, func(p *api.Plan) { p.Wires = append(p.Wires, p.Wires[0]) })
	refused(t, api.ErrRange, func(p *api.Plan) { p.Wires[11].Deep = 7 })
	refused(t, api.ErrShape, func(p *api.Plan) { p.Wires[11].To = p.Wires[11].From })
	refused(t, api.ErrRange, func(p *api.Plan) { p.Code = p.Code[:4] })
	refused(t, api.ErrNone, func(p *api.Plan) { p.Code[4] = nil })
	refused(t, api.ErrFull, func(p *api.Plan) { p.Code[4] = rests(21) })
	refused(t, api.ErrRange, func(p *api.Plan) { p.Code[4][19] = api.Op{What: api.Jump, B: 20} })
	refused(t, api.ErrShape, func(p *api.Plan) { p.Code[0][0] = api.Op{What: api.Send, B: 1} })
	refused(t, api.ErrShape, func(p *api.Plan) { p.Code[0][0] = api.Op{What: api.Take, B: 0} })
	refused(t, api.ErrRange, func(p *api.Plan) {
		p.Code[0][0] = api.Op{What: api.Send, B: 1}
		p.Code[4][0] = api.Op{}
	})
}

// TestK1Turns: who has a tick is told from frame to frame; a tick that nobody has changes nothing but the time.
func TestK1Turns(t *testing.T) {
	k := made(t, "frame 5\nspan 3 4 0\nspan 0 2 1\nroom\nrest\nrest\nroom\nrest\nrest\nrest\n")
	at := [2]int{}
	for n := range 1000 {
		e := api.Event{Tick: n, Room: []int{1, 1, -1, 0, -1}[n%5]}
		if e.Room >= 0 {
			e.At = at[e.Room]
			at[e.Room] = (at[e.Room] + 1) % (2 + e.Room)
		}
		ticked(t, k, e)
		stands(t, k, 0, api.State{At: at[0]})
		stands(t, k, 1, api.State{At: at[1]})
	}
}

// TestK1Nobody: neither a plan without spans, nor a room without one, comes to anything.
func TestK1Nobody(t *testing.T) {
	k := made(t, "frame 3\nroom\nset 0 7\n")
	for n := range 10 {
		ticked(t, k, api.Event{Tick: n, Room: -1})
		stands(t, k, 0, api.State{})
	}
	k = made(t, "frame 1\nspan 0 1 1\nroom\nset 0 7\nroom\nset 0 8\n")
	for n := range 10 {
		ticked(t, k, api.Event{Tick: n, Room: 1})
		stands(t, k, 0, api.State{})
		stands(t, k, 1, api.State{Cells: [6]int{8}})
	}
}

// TestK1GoesOn: all ops that neither send, take nor fail come to 0.
func TestK1GoesOn(t *testing.T) {
	k := made(t, "frame 1\nspan 0 1 0\nroom\nset 0 999\ncopy 1 0\nadd 1 0\nsub 2 0\nmul 0 0\nrest\nzero 0 0\nzero 3 9\nfail\njump 1\n")
	want := []api.State{
		{At: 1, Cells: [6]int{999}},
		{At: 2, Cells: [6]int{999, 999}},
		{At: 3, Cells: [6]int{999, 998}},
		{At: 4, Cells: [6]int{999, 998, 1}},
		{At: 5, Cells: [6]int{1, 998, 1}},
		{At: 6, Cells: [6]int{1, 998, 1}},
		{At: 7, Cells: [6]int{1, 998, 1}},
		{At: 9, Cells: [6]int{1, 998, 1}},
		{At: 1, Cells: [6]int{1, 998, 1}},
		{At: 2, Cells: [6]int{1, 1, 1}},
	}
	at := 0
	for _, s := range want {
		ticks(t, k, 0, [2]int{at, 0})
		stands(t, k, 0, s)
		at = s.At
	}
}

// TestK1QueueOfEachDepth: so many are there, those behind are lost, and the first is taken first; at each tick the sender goes on, and who has nothing to take stays.
func TestK1QueueOfEachDepth(t *testing.T) {
	for deep := 1; deep <= 6; deep++ {
		p := parsed(t, "frame 20\nspan 0 12 0\nspan 12 20 1\nwire 0 1 2 1\nroom\nsend 0 0\nroom\ntake 5 0\nrest\n")
		p.Wires[0].Deep = deep
		k, err := New(p)
		if err != nil {
			t.Fatal(err)
		}
		var items []int
		for n := range 12 {
			poked(t, k, 0, 0, 100+n, api.OK)
			what, lost := 1, 0
			if n < deep {
				items = append(items, 100+n)
			} else {
				what, lost = 3, n-deep+1
			}
			ticks(t, k, 0, [2]int{0, what})
			holds(t, k, 0, lost, items...)
			stands(t, k, 0, api.State{Cells: [6]int{100 + n}})
		}
		for n := range 4 {
			if n >= deep {
				ticks(t, k, 1, [2]int{0, 3}, [2]int{0, 3})
				stands(t, k, 1, api.State{Cells: [6]int{5: 99 + deep}})
				continue
			}
			ticks(t, k, 1, [2]int{0, 2})
			stands(t, k, 1, api.State{At: 1, Cells: [6]int{5: 100 + n}})
			holds(t, k, 0, 12-deep, items[n+1:]...)
			ticks(t, k, 1, [2]int{1, 0})
		}
	}
}

// TestK1Sample: there is nothing till one is sent; then the last one stays, and none is lost.
func TestK1Sample(t *testing.T) {
	k := made(t, "frame 5\nspan 0 2 1\nspan 2 5 0\nwire 0 1 1 1\nroom\nset 0 7\nsend 0 0\nset 0 0\nsend 0 0\nrest\nrest\nroom\ntake 2 0\n")
	ticks(t, k, 1, [2]int{0, 3}, [2]int{0, 3})
	holds(t, k, 0, 0)
	ticks(t, k, 0, [2]int{0, 0}, [2]int{1, 1})
	holds(t, k, 0, 0, 7)
	ticks(t, k, 0, [2]int{2, 0})
	for range 2 {
		ticks(t, k, 1, [2]int{0, 2})
		stands(t, k, 1, api.State{Cells: [6]int{2: 7}})
		holds(t, k, 0, 0, 7)
	}
	ticks(t, k, 0, [2]int{3, 1})
	holds(t, k, 0, 0, 0)
	ticks(t, k, 0, [2]int{4, 0}, [2]int{5, 0})
	// 0 that is there is something to take.
	ticks(t, k, 1, [2]int{0, 2})
	stands(t, k, 1, api.State{})
	holds(t, k, 0, 0, 0)
}

// TestK1TakesWhatIsThereThen: who waits goes on with what was sent meanwhile, and a queue that was full has room again.
func TestK1TakesWhatIsThereThen(t *testing.T) {
	k := made(t, "frame 2\nspan 0 1 1\nspan 1 2 0\nwire 0 1 2 1\nroom\nsend 0 0\nadd 0 1\nroom\ntake 0 0\nrest\nrest\n")
	poked(t, k, 0, 1, 5, api.OK)
	for _, e := range []api.Event{
		{Room: 1, What: 3}, {Room: 0, What: 1},
		{Room: 1, What: 2}, {Room: 0, At: 1},
		{Room: 1, At: 1}, {Room: 0, What: 1},
		{Room: 1, At: 2}, {Room: 0, At: 1},
		{Room: 1, What: 2}, {Room: 0, What: 1},
		{Room: 1, At: 1}, {Room: 0, At: 1},
		{Room: 1, At: 2}, {Room: 0, What: 3},
		{Room: 1, What: 2}, {Room: 0, At: 1},
	} {
		e.Tick = k.Time()
		ticked(t, k, e)
	}
	stands(t, k, 0, api.State{Cells: [6]int{20, 5}})
	stands(t, k, 1, api.State{At: 1, Cells: [6]int{10}})
	holds(t, k, 0, 1)
}

// TestK1Wires: each op goes to the wire that it names, be there others between the same rooms, the last one too.
func TestK1Wires(t *testing.T) {
	for to := range 12 {
		p := parsed(t, "frame 4\nspan 0 3 0\nspan 3 4 1\nwire 0 1 2 1\nroom\nset 3 999\nsend 3 0\nrest\nroom\ntake 4 0\n")
		p.Wires = slices.Repeat([]api.Wire{{From: 0, To: 1, Kind: api.Queue, Deep: 1}}, 12)
		p.Code[0][1].B, p.Code[1][0].B = to, to
		k, err := New(p)
		if err != nil {
			t.Fatal(err)
		}
		ticks(t, k, 0, [2]int{0, 0}, [2]int{1, 1}, [2]int{2, 0})
		for i := range 12 {
			if i == to {
				holds(t, k, i, 0, 999)
			} else {
				holds(t, k, i, 0)
			}
		}
		ticks(t, k, 1, [2]int{0, 2})
		stands(t, k, 1, api.State{Cells: [6]int{4: 999}})
		for i := range 12 {
			holds(t, k, i, 0)
		}
	}
}

// TestK1Fails: 4 at the tick at which it fails, 5 at each behind it; it stays as it is, and the others go on.
func TestK1Fails(t *testing.T) {
	k := made(t, "frame 3\nspan 0 2 0\nspan 2 3 1\nroom\nset 1 3\nrest\nfail\nset 1 4\nroom\nadd 0 0\nfail\n")
	ticks(t, k, 0, [2]int{0, 0}, [2]int{1, 0})
	ticks(t, k, 1, [2]int{0, 0})
	ticks(t, k, 0, [2]int{2, 4})
	stands(t, k, 0, api.State{At: 2, Cells: [6]int{0, 3}, Failed: true})
	ticks(t, k, 0, [2]int{2, 5})
	stands(t, k, 1, api.State{At: 1})
	ticks(t, k, 1, [2]int{1, 4})
	for range 100 {
		ticks(t, k, 0, [2]int{2, 5}, [2]int{2, 5})
		ticks(t, k, 1, [2]int{1, 5})
		stands(t, k, 0, api.State{At: 2, Cells: [6]int{0, 3}, Failed: true})
		stands(t, k, 1, api.State{At: 1, Failed: true})
	}
	// A cell of who failed may be another number; it has failed still.
	poked(t, k, 0, 1, 9, api.OK)
	ticks(t, k, 0, [2]int{2, 5})
	stands(t, k, 0, api.State{At: 2, Cells: [6]int{0, 9}, Failed: true})
}

func TestK2WhatIsNotThere(t *testing.T) {
	for rooms := 1; rooms <= 5; rooms++ {
		p := api.Plan{Code: slices.Repeat([][]api.Op{rests(1)}, rooms), Ticks: 1}
		if rooms > 1 {
			p.Wires = slices.Repeat([]api.Wire{{From: 0, To: 1, Kind: api.Sample, Deep: 1}}, 4*rooms-8)
		}
		k, err := New(p)
		if err != nil {
			t.Fatal(err)
		}
		for _, r := range []int{math.MinInt, -1, 0, rooms - 1, rooms, 5, math.MaxInt} {
			want := api.ErrRange
			if 0 <= r && r < rooms {
				want = api.OK
			}
			if s, err := k.State(r); s != (api.State{}) || plain.Told(err) != want {
				t.Errorf("State(%d) of %d: got %v, %v, want %v", r, rooms, s, err, want)
			}
			poked(t, k, r, 0, 0, want)
		}
		wires := len(p.Wires)
		for _, i := range []int{math.MinInt, -1, 0, wires - 1, wires, 12, math.MaxInt} {
			want := api.ErrRange
			if 0 <= i && i < wires {
				want = api.OK
			}
			if h, err := k.Wire(i); len(h.Items) != 0 || h.Lost != 0 || plain.Told(err) != want {
				t.Errorf("Wire(%d) of %d: got %v, %v, want %v", i, wires, h, err, want)
			}
		}
	}
}

// TestK2Poke: one cell of one room is another number, and nothing else is changed.
func TestK2Poke(t *testing.T) {
	k, err := New(great())
	if err != nil {
		t.Fatal(err)
	}
	want := seen(k)
	for _, n := range []int{0, 1, 999, 500, 0, 998} {
		for r := range 5 {
			for cell := range 6 {
				poked(t, k, r, cell, n, api.OK)
				want.rooms[r].Cells[cell] = n
				if got := seen(k); !got.same(want) {
					t.Fatalf("Poke(%d, %d, %d): got %v, want %v", r, cell, n, got, want)
				}
			}
		}
	}
	if e := k.Tick(); e != (api.Event{}) {
		t.Errorf("Tick: got %v", e)
	}
	stands(t, k, 0, api.State{At: 1, Cells: [6]int{998, 998, 998, 998, 998, 998}})
}

// TestK2PokeOfWrongNumbers: nothing is changed by them, whichever of the three are wrong.
func TestK2PokeOfWrongNumbers(t *testing.T) {
	k := made(t, "frame 2\nspan 0 1 0\nspan 1 2 1\nwire 0 1 2 2\nroom\nset 0 5\nsend 0 0\nroom\nfail\n")
	for range 4 {
		k.Tick()
	}
	poked(t, k, 1, 5, 999, api.OK)
	want := seen(k)
	edges := func(last, bound int) []int {
		return []int{0, last, math.MinInt, -1000, -1, bound, bound + 1, math.MaxInt}
	}
	rooms, cells, numbers := edges(1, 2), edges(5, 6), edges(999, 1000)
	for i, r := range rooms {
		for j, cell := range cells {
			for l, n := range numbers {
				if max(i, j, l) < 2 {
					continue // these three are right
				}
				poked(t, k, r, cell, n, api.ErrRange)
			}
		}
	}
	if got := seen(k); !got.same(want) {
		t.Errorf("got %v, want %v", got, want)
	}
}

// TestK2PokeCountsAtTheNextTick: what is poked is what the next ops go by.
func TestK2PokeCountsAtTheNextTick(t *testing.T) {
	k := made(t, "frame 1\nspan 0 1 0\nwire 0 1 1 1\nroom\nzero 0 0\nsend 0 0\nroom\nrest\n")
	ticks(t, k, 0, [2]int{0, 0}, [2]int{0, 0})
	poked(t, k, 0, 0, 42, api.OK)
	ticks(t, k, 0, [2]int{0, 0}, [2]int{1, 1})
	holds(t, k, 0, 0, 42)
	poked(t, k, 0, 0, 0, api.OK)
	holds(t, k, 0, 0, 42)
	ticks(t, k, 0, [2]int{0, 0}, [2]int{0, 0})
}

// TestTurn: it tells ahead of each tick who has it, and changes nothing.
func TestTurn(t *testing.T) {
	k := made(t, "frame 5\nspan 3 4 0\nspan 0 2 1\nroom\nset 0 1\nfail\nroom\nrest\n")
	for n := range 100 {
		want := seen(k)
		for range 3 {
			if got := k.Turn(); got != []int{1, 1, -1, 0, -1}[n%5] {
				t.Errorf("Turn at %d: got %d", n, got)
			}
		}
		if got := seen(k); !got.same(want) {
			t.Errorf("got %v, want %v", got, want)
		}
		k.Tick()
	}
}

// TestPut: a room goes on from the state it was put into, be it one that failed or not; nothing else is changed.
func TestPut(t *testing.T) {
	k := made(t, "frame 2\nspan 0 1 0\nspan 1 2 1\nwire 0 1 2 3\nroom\nsend 0 0\nset 0 7\nfail\nroom\ntake 0 0\n")
	for range 6 {
		k.Tick()
	}
	want := seen(k)
	for _, s := range []api.State{
		{},
		{At: 2, Cells: [6]int{999, 999, 999, 999, 999, 999}},
		{At: 1, Failed: true},
		{At: 2, Cells: [6]int{5: 999}, Failed: true},
		{Cells: [6]int{41}},
	} {
		if err := k.Put(0, s); err != nil {
			t.Errorf("Put(0, %v): got %v", s, err)
		}
		want.rooms[0] = s
		if got := seen(k); !got.same(want) {
			t.Errorf("Put(0, %v): got %v, want %v", s, got, want)
		}
	}
	ticks(t, k, 0, [2]int{0, 1})
	stands(t, k, 0, api.State{At: 1, Cells: [6]int{41}})
	holds(t, k, 0, 0, 41)
}

// TestPutOfWhatMayNotBe: nothing is changed by a room that is not there, nor by a place or a cell that its own code and Modulo do not allow.
func TestPutOfWhatMayNotBe(t *testing.T) {
	k := made(t, "frame 2\nspan 0 1 0\nspan 1 2 1\nroom\nset 0 7\nrest\nfail\nroom\nset 0 8\n")
	for range 3 {
		k.Tick()
	}
	want := seen(k)
	refused := func(r int, s api.State) {
		t.Helper()
		if got := plain.Told(k.Put(r, s)); got != api.ErrRange {
			t.Errorf("Put(%d, %v): got %v, want %v", r, s, got, api.ErrRange)
		}
	}
	for _, r := range []int{math.MinInt, -1, 2, 5, math.MaxInt} {
		refused(r, api.State{})
	}
	for _, at := range []int{math.MinInt, -1, 3, 20, math.MaxInt} {
		refused(0, api.State{At: at})
		refused(1, api.State{At: at, Failed: true})
	}
	refused(1, api.State{At: 1})
	for cell := range 6 {
		for _, n := range []int{math.MinInt, -1, 1000, math.MaxInt} {
			s := api.State{}
			s.Cells[cell] = n
			refused(0, s)
		}
	}
	if got := seen(k); !got.same(want) {
		t.Errorf("got %v, want %v", got, want)
	}
}

// TestPutWire: what is put on a wire is there for the room at its end; nothing else is changed.
func TestPutWire(t *testing.T) {
	k := made(t, "frame 2\nspan 0 1 0\nspan 1 2 1\nwire 0 1 2 3\nwire 0 1 1 1\nroom\nsend 0 0\nsend 0 1\nroom\ntake 0 0\ntake 1 1\n")
	put := func(want api.Errno, i, lost int, items ...int) {
		t.Helper()
		if err := k.PutWire(i, api.Held{Items: items, Lost: lost}); plain.Told(err) != want {
			t.Errorf("PutWire(%d, %v, %d): got %v, want %v", i, items, lost, plain.Told(err), want)
		}
	}
	put(api.OK, 0, 6, 7, 8, 9)
	put(api.OK, 1, 0, 5)
	holds(t, k, 0, 6, 7, 8, 9)
	holds(t, k, 1, 0, 5)
	want := seen(k)
	for _, i := range []int{math.MinInt, -1, 2, 12, math.MaxInt} {
		put(api.ErrRange, i, 0)
		put(api.ErrRange, i, 0, 1)
	}
	put(api.ErrRange, 0, 0, 1, 2, 3, 4)
	put(api.ErrRange, 0, -1)
	put(api.ErrRange, 0, 0, 1000)
	put(api.ErrRange, 1, 1)
	put(api.ErrRange, 1, 0, 1, 2)
	put(api.ErrRange, 1, 0, -1)
	if got := seen(k); !got.same(want) {
		t.Errorf("got %v, want %v", got, want)
	}
	ticks(t, k, 0, [2]int{0, 3})
	ticks(t, k, 1, [2]int{0, 2})
	ticks(t, k, 0, [2]int{1, 1})
	ticks(t, k, 1, [2]int{1, 2})
	stands(t, k, 1, api.State{Cells: [6]int{7, 0}})
	holds(t, k, 0, 7, 8, 9)
	put(api.OK, 0, 0)
	holds(t, k, 0, 0)
	ticks(t, k, 0, [2]int{0, 1})
	put(api.OK, 0, 0)
	ticks(t, k, 1, [2]int{0, 3})
}

// TestPutTime: from another time on, be it ahead or behind, the frame goes on as it would; nothing else is changed.
func TestPutTime(t *testing.T) {
	k := made(t, "frame 3\nspan 0 1 1\nspan 2 3 0\nroom\nrest\nrest\nroom\nset 0 7\nfail\n")
	ticks(t, k, 1, [2]int{0, 0})
	want := seen(k)
	for _, n := range []int{0, 1, 2, 3, 4, 5, 39, 1000, 1_000_001, 9_999_999} {
		if err := k.PutTime(n); err != nil || k.Turn() != []int{1, -1, 0}[n%3] {
			t.Errorf("PutTime(%d): got %v, then Turn %d", n, err, k.Turn())
		}
		want.time = n
		if got := seen(k); !got.same(want) {
			t.Errorf("PutTime(%d): got %v, want %v", n, got, want)
		}
		for _, wrong := range []int{math.MinInt, -3, -1} {
			if err := k.PutTime(wrong); plain.Told(err) != api.ErrRange {
				t.Errorf("PutTime(%d): got %v", wrong, err)
			}
		}
		if got := seen(k); !got.same(want) {
			t.Errorf("behind what may not be: got %v, want %v", got, want)
		}
	}
	k.PutTime(5)
	ticks(t, k, 0, [2]int{0, 0})
	ticks(t, k, 1, [2]int{1, 4})
	ticked(t, k, api.Event{Tick: 7, Room: -1})
	k.PutTime(0)
	ticks(t, k, 1, [2]int{1, 5})
}

// TestUse: from the next tick on, be it within a frame, other spans tell who has it; nothing else is changed, and the time goes on.
func TestUse(t *testing.T) {
	k := made(t, "frame 3\nspan 0 3 0\nwire 0 1 2 3\nroom\nset 0 7\nsend 0 0\nroom\ntake 0 0\n")
	ticks(t, k, 0, [2]int{0, 0}, [2]int{1, 1})
	want := seen(k)
	for _, c := range []struct {
		spans []api.Span
		turn  int
	}{
		{nil, -1},
		{[]api.Span{{From: 2, To: 3, Room: 0}}, 0},
		{[]api.Span{}, -1},
		{[]api.Span{{From: 1, To: 3, Room: 1}, {From: 0, To: 1, Room: 0}}, 1},
	} {
		if err := k.Use(c.spans); err != nil || k.Turn() != c.turn {
			t.Errorf("Use(%v): got %v, then Turn %d", c.spans, err, k.Turn())
		}
		if got := seen(k); !got.same(want) {
			t.Errorf("Use(%v): got %v, want %v", c.spans, got, want)
		}
	}
	ticks(t, k, 1, [2]int{0, 2})
	ticks(t, k, 0, [2]int{0, 0})
	ticks(t, k, 1, [2]int{0, 3}, [2]int{0, 3})
	ticks(t, k, 0, [2]int{1, 1})
	holds(t, k, 0, 0, 7)
}

// TestUseOfWhatMayNotBe: nothing is changed by spans that do not fit the frame, or that name a room that is not there.
func TestUseOfWhatMayNotBe(t *testing.T) {
	k := made(t, "frame 3\nspan 0 3 1\nroom\nrest\nroom\nset 0 8\n")
	many := slices.Repeat([]api.Span{{To: 1}}, 13)
	for _, c := range []struct {
		want  api.Errno
		spans []api.Span
	}{
		{api.ErrRange, []api.Span{{From: -1, To: 1}}},
		{api.ErrRange, []api.Span{{From: 1, To: 1}}},
		{api.ErrRange, []api.Span{{To: 4}}},
		{api.ErrRange, []api.Span{{To: 1, Room: -1}}},
		{api.ErrRange, []api.Span{{To: 1}, {From: 1, To: 2, Room: 2}}},
		{api.ErrRange, []api.Span{{To: 1, Room: 5}}},
		{api.ErrClash, []api.Span{{To: 2}, {From: 1, To: 3}}},
		{api.ErrClash, []api.Span{{To: 2, Room: 2}, {From: 1, To: 3}}},
		{api.ErrFull, many},
	} {
		if got := plain.Told(k.Use(c.spans)); got != c.want {
			t.Errorf("Use(%v): got %v, want %v", c.spans, got, c.want)
		}
		ticks(t, k, 1, [2]int{0, 0})
	}
}

// TestP2SpansAreTheCallers: Use writes nothing into spans, nor behind them; and whoever changes them later changes no kernel.
func TestP2SpansAreTheCallers(t *testing.T) {
	k := made(t, "frame 2\nroom\nrest\nroom\nrest\n")
	l := append(make([]api.Span, 0, 9), api.Span{To: 2, Room: 1})
	if err := k.Use(l); err != nil {
		t.Fatal(err)
	}
	ticks(t, k, 1, [2]int{})
	if l[0] != (api.Span{To: 2, Room: 1}) || l[:2][1] != (api.Span{}) {
		t.Errorf("the spans are %v now", l[:2])
	}
	l[0].Room = 0
	ticks(t, k, 1, [2]int{}, [2]int{}, [2]int{})
}

// TestP2PutWireIsTheCallers: PutWire writes nothing into a list, nor behind it; and whoever changes it later changes no wire.
func TestP2PutWireIsTheCallers(t *testing.T) {
	k := made(t, "frame 1\nspan 0 1 0\nwire 0 1 2 3\nroom\nsend 0 0\nroom\nrest\n")
	all := []int{4, 5, -1}
	if err := k.PutWire(0, api.Held{Items: all[:2]}); err != nil {
		t.Fatal(err)
	}
	ticks(t, k, 0, [2]int{0, 1})
	if !slices.Equal(all, []int{4, 5, -1}) {
		t.Errorf("the list is %v now", all)
	}
	clear(all)
	holds(t, k, 0, 0, 4, 5, 0)
}

// TestP2PlanIsTheCallers: New writes nothing into a plan, nor behind its lists; and whoever changes the plan later changes no kernel.
func TestP2PlanIsTheCallers(t *testing.T) {
	text := "frame 2\nspan 0 1 0\nspan 1 2 1\nwire 0 1 2 1\nroom\nset 0 5\nsend 0 0\nroom\ntake 1 0\n"
	p := parsed(t, text)
	p.Code = append(make([][]api.Op, 0, 9), p.Code...)
	p.Spans = append(make([]api.Span, 0, 9), p.Spans...)
	p.Wires = append(make([]api.Wire, 0, 9), p.Wires...)
	p.Code[0] = append(make([]api.Op, 0, 9), p.Code[0]...)
	k, err := New(p)
	if err != nil {
		t.Fatal(err)
	}
	if got, err := plan.Print(p); got != text || err != nil {
		t.Errorf("the plan is %q, %v now", got, err)
	}
	if p.Code[:3][2] != nil || p.Spans[:3][2] != (api.Span{}) || p.Wires[:2][1] != (api.Wire{}) || p.Code[0][:3][2] != (api.Op{}) {
		t.Errorf("behind the lists of the plan: %v", p)
	}
	other := made(t, text)
	for i := range p.Code {
		for j := range p.Code[i] {
			p.Code[i][j] = api.Op{What: api.Fail}
		}
		p.Code[i] = nil
	}
	clear(p.Spans)
	clear(p.Wires)
	for range 20 {
		if a, b := k.Tick(), other.Tick(); a != b {
			t.Errorf("Tick: got %v, want %v", a, b)
		}
		if a, b := seen(k), seen(other); !a.same(b) {
			t.Errorf("got %v, want %v", a, b)
		}
	}
}

// TestP2HeldIsTheCallers: whoever writes into an answer changes neither the wire nor another answer; and the wire changes no answer.
func TestP2HeldIsTheCallers(t *testing.T) {
	k := made(t, "frame 4\nspan 0 3 0\nspan 3 4 1\nwire 0 1 2 3\nroom\nsend 0 0\nroom\ntake 0 0\n")
	ticks(t, k, 0, [2]int{0, 1}, [2]int{0, 1})
	first, _ := k.Wire(0)
	second, _ := k.Wire(0)
	all := first.Items[:cap(first.Items)]
	for i := range all {
		all[i] = 77
	}
	holds(t, k, 0, 0, 0, 0)
	poked(t, k, 0, 0, 5, api.OK)
	ticks(t, k, 0, [2]int{0, 1})
	ticks(t, k, 1, [2]int{0, 2})
	if !slices.Equal(second.Items, []int{0, 0}) {
		t.Errorf("another answer is %v now", second)
	}
	holds(t, k, 0, 0, 0, 5)
}

// TestP2KernelsAreApart: of two of one plan neither changes the other one.
func TestP2KernelsAreApart(t *testing.T) {
	p := parsed(t, "frame 1\nspan 0 1 0\nwire 0 1 2 2\nroom\nsend 0 0\nadd 0 1\nroom\nrest\n")
	a, _ := New(p)
	b, _ := New(p)
	want := seen(b)
	poked(t, a, 0, 1, 3, api.OK)
	for range 9 {
		a.Tick()
	}
	if got := seen(b); !got.same(want) {
		t.Errorf("got %v, want %v", got, want)
	}
}
