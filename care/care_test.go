package care

import (
	"math"
	"slices"
	"testing"

	"framekeep/api"
	"framekeep/plain"
	"framekeep/plan"
)

// parsed is the plan of a text.
func parsed(t *testing.T, text string) api.Plan {
	t.Helper()
	p, err := plan.Parse(text)
	if err != nil {
		t.Fatalf("Parse(%q): got %v", text, err)
	}
	return p
}

// made is a care of a plan.
func made(t *testing.T, p api.Plan, most int, what ...int) *Care {
	t.Helper()
	c, err := New(p, what, most)
	if c == nil || err != nil {
		t.Fatalf("New(%v, %v, %d): got %v, %v", p, what, most, c, err)
	}
	return c
}

// stands asks for the state of a room, and how often it was helped.
func stands(t *testing.T, c *Care, room int, want api.State, times int) {
	t.Helper()
	s, err := c.State(room)
	n, bad := c.Times(room)
	if s != want || n != times || err != nil || bad != nil {
		t.Errorf("room %d: got %v, %v, helped %d times, %v, want %v, %d", room, s, err, n, bad, want, times)
	}
}

// ticked asks for the events of the next ticks.
func ticked(t *testing.T, c *Care, want ...api.Event) {
	t.Helper()
	for _, e := range want {
		if got := c.Tick(); got != e {
			t.Errorf("Tick: got %v, want %v", got, e)
		}
	}
}

// poked asks what Poke tells.
func poked(t *testing.T, c *Care, room, cell, n int, want api.Errno) {
	t.Helper()
	if got := plain.Told(c.Poke(room, cell, n)); got != want {
		t.Errorf("Poke(%d, %d, %d): got %v, want %v", room, cell, n, got, want)
	}
}

// rests is code of n ops that are all right.
func rests(n int) []api.Op { return slices.Repeat([]api.Op{{What: api.Rest}}, n) }

// great is a plan with as many rooms, ops, ticks, spans and wires as there may be.
func great() api.Plan {
	p := api.Plan{Ticks: 40}
	for i := range 12 {
		p.Spans = append(p.Spans, api.Span{From: 3 * i, To: 3*i + 3, Room: i % 5})
		p.Wires = append(p.Wires, api.Wire{From: i % 5, To: (i + 1) % 5, Kind: api.Queue, Deep: 1 + i%6})
	}
	for range 5 {
		p.Code = append(p.Code, rests(20))
	}
	return p
}

// refused asks for an error of New: there is no care then.
func refused(t *testing.T, want api.Errno, p api.Plan, most int, what ...int) {
	t.Helper()
	if c, err := New(p, what, most); c != nil || plain.Told(err) != want {
		t.Errorf("New(%v, %v, %d): got %v, %v, want %v", p, what, most, c, plain.Told(err), want)
	}
}

// negative is numbers below all that a rule, or most, may be.
func negative() []int { return []int{math.MinInt, -1000, -2, -1} }

func TestC1NewIsNew(t *testing.T) {
	c := made(t, api.Plan{Code: [][]api.Op{rests(1)}, Ticks: 1}, 0, api.Stay)
	stands(t, c, 0, api.State{}, 0)
	c = made(t, great(), 100, api.Stay, api.Again, api.On, api.Again, api.Stay)
	for room := range 5 {
		stands(t, c, room, api.State{}, 0)
	}
}

// TestC1NewOfWrongPlans: what is wrong with the plan is told ahead of how many rules there are, which they are, and most.
func TestC1NewOfWrongPlans(t *testing.T) {
	cases := []struct {
		want   api.Errno
		change func(p *api.Plan)
	}{
		{api.ErrNone, func(p *api.Plan) { *p = api.Plan{} }},
		{api.ErrNone, func(p *api.Plan) { p.Code = nil }},
		{api.ErrFull, func(p *api.Plan) { p.Code = append(p.Code, rests(1)) }},
		{api.ErrRange, func(p *api.Plan) { p.Ticks = 41 }},
		{api.ErrFull, func(p *api.Plan) { p.Spans = append(p.Spans, api.Span{From: 39, To: 40}) }},
		{api.ErrClash, func(p *api.Plan) { p.Spans[11] = api.Span{From: 2, To: 3} }},
		{api.ErrFull, func(p *api.Plan) { p.Wires = append(p.Wires, p.Wires[0]) }},
		{api.ErrShape, func(p *api.Plan) { p.Wires[11].To = p.Wires[11].From }},
		{api.ErrRange, func(p *api.Plan) { p.Code = p.Code[:4] }},
		{api.ErrNone, func(p *api.Plan) { p.Code[4] = nil }},
		{api.ErrFull, func(p *api.Plan) { p.Code[4] = rests(21) }},
		{api.ErrRange, func(p *api.Plan) { p.Code[4][19] = api.Op{What: 12} }},
		{api.ErrShape, func(p *api.Plan) { p.Code[0][0] = api.Op{What: api.Send, B: 1} }},
	}
	for _, c := range cases {
		p := great()
		c.change(&p)
		refused(t, c.want, p, 1, slices.Repeat([]int{api.On}, len(p.Code))...)
		refused(t, c.want, p, 1)
		refused(t, c.want, p, -1, 0, 0, 0, 0, 0, 0, 0)
		refused(t, c.want, p, 101, slices.Repeat([]int{3}, len(p.Code))...)
	}
}

// TestC1NewOfAnotherNumberOfRules: it is told ahead of a rule that is none, and of most.
func TestC1NewOfAnotherNumberOfRules(t *testing.T) {
	for rooms := 1; rooms <= 5; rooms++ {
		p := api.Plan{Code: slices.Repeat([][]api.Op{rests(1)}, rooms), Ticks: 1}
		for n := range 8 {
			if n == rooms {
				made(t, p, 1, make([]int, n)...)
				continue
			}
			refused(t, api.ErrShape, p, 1, make([]int, n)...)
			refused(t, api.ErrShape, p, -1, make([]int, n)...)
			refused(t, api.ErrShape, p, 101, slices.Repeat([]int{-1}, n)...)
			refused(t, api.ErrShape, p, 0, slices.Repeat([]int{3}, n)...)
		}
	}
}

// TestC1NewOfWrongRules: whichever room's it is, and whatever the others are.
func TestC1NewOfWrongRules(t *testing.T) {
	for room := range 5 {
		for _, rule := range append(negative(), 3, 4, 11, 1000, math.MaxInt) {
			for others := api.Stay; others <= api.On; others++ {
				what := slices.Repeat([]int{others}, 5)
				what[room] = rule
				refused(t, api.ErrRange, great(), 0, what...)
				refused(t, api.ErrRange, great(), 100, what...)
				refused(t, api.ErrRange, great(), 101, what...)
			}
		}
		for rule := api.Stay; rule <= api.On; rule++ {
			what := make([]int, 5)
			what[room] = rule
			made(t, great(), 1, what...)
		}
	}
}

func TestC1NewOfWrongMost(t *testing.T) {
	for rule := api.Stay; rule <= api.On; rule++ {
		what := slices.Repeat([]int{rule}, 5)
		for _, most := range append(negative(), 101, 102, 1000, math.MaxInt) {
			refused(t, api.ErrRange, great(), most, what...)
		}
		for most := range 101 {
			made(t, great(), most, what...)
		}
	}
}

// TestC1Stay: who failed has failed, however much help there might be.
func TestC1Stay(t *testing.T) {
	c := made(t, parsed(t, "frame 1\nspan 0 1 0\nroom\nset 1 3\nfail\nset 1 4\n"), 100, api.Stay)
	ticked(t, c, api.Event{}, api.Event{Tick: 1, At: 1, What: 4})
	for n := 2; n < 300; n++ {
		ticked(t, c, api.Event{Tick: n, At: 1, What: 5})
		stands(t, c, 0, api.State{At: 1, Cells: [6]int{0, 3}, Failed: true}, 0)
	}
}

// TestC1Again: at the first op, with all cells 0, and it does this op at the same tick.
func TestC1Again(t *testing.T) {
	c := made(t, parsed(t, "frame 1\nspan 0 1 0\nroom\nadd 0 1\nset 1 3\nfail\nset 1 4\n"), 2, api.Again)
	for _, cell := range []int{0, 1, 2, 3, 4, 5} {
		poked(t, c, 0, cell, 7, api.OK)
	}
	ticked(t, c, api.Event{}, api.Event{Tick: 1, At: 1}, api.Event{Tick: 2, At: 2, What: 4})
	stands(t, c, 0, api.State{At: 2, Cells: [6]int{14, 3, 7, 7, 7, 7}, Failed: true}, 0)
	ticked(t, c, api.Event{Tick: 3})
	stands(t, c, 0, api.State{At: 1}, 1)
	ticked(t, c, api.Event{Tick: 4, At: 1}, api.Event{Tick: 5, At: 2, What: 4})
	stands(t, c, 0, api.State{At: 2, Cells: [6]int{0, 3}, Failed: true}, 1)
	ticked(t, c, api.Event{Tick: 6})
	stands(t, c, 0, api.State{At: 1}, 2)
	ticked(t, c, api.Event{Tick: 7, At: 1}, api.Event{Tick: 8, At: 2, What: 4})
	for n := range 100 {
		ticked(t, c, api.Event{Tick: 9 + n, At: 2, What: 5})
		stands(t, c, 0, api.State{At: 2, Cells: [6]int{0, 3}, Failed: true}, 2)
	}
}

// TestC1On: at the next op, with its cells as they are, and it does this op at the same tick.
func TestC1On(t *testing.T) {
	c := made(t, parsed(t, "frame 1\nspan 0 1 0\nroom\nset 1 3\nfail\nadd 0 1\n"), 2, api.On)
	poked(t, c, 0, 5, 9, api.OK)
	ticked(t, c, api.Event{}, api.Event{Tick: 1, At: 1, What: 4})
	stands(t, c, 0, api.State{At: 1, Cells: [6]int{0, 3, 5: 9}, Failed: true}, 0)
	ticked(t, c, api.Event{Tick: 2, At: 2})
	stands(t, c, 0, api.State{Cells: [6]int{3, 3, 5: 9}}, 1)
	ticked(t, c, api.Event{Tick: 3}, api.Event{Tick: 4, At: 1, What: 4}, api.Event{Tick: 5, At: 2})
	stands(t, c, 0, api.State{Cells: [6]int{6, 3, 5: 9}}, 2)
	ticked(t, c, api.Event{Tick: 6}, api.Event{Tick: 7, At: 1, What: 4})
	for n := range 100 {
		ticked(t, c, api.Event{Tick: 8 + n, At: 1, What: 5})
		stands(t, c, 0, api.State{At: 1, Cells: [6]int{6, 3, 5: 9}, Failed: true}, 2)
	}
}

// TestC1OnFromEachPlace: behind the last op is the first, of code of each length.
func TestC1OnFromEachPlace(t *testing.T) {
	for ops := 1; ops <= 20; ops++ {
		for at := range ops {
			p := api.Plan{Code: [][]api.Op{rests(ops)}, Ticks: 1, Spans: []api.Span{{To: 1}}}
			p.Code[0][at].What = api.Fail
			c := made(t, p, 100, api.On)
			for n := range at {
				ticked(t, c, api.Event{Tick: n, At: n})
			}
			ticked(t, c, api.Event{Tick: at, At: at, What: 4})
			stands(t, c, 0, api.State{At: at, Failed: true}, 0)
			next := (at + 1) % ops
			if next == at { // it is the only op, and fails again
				ticked(t, c, api.Event{Tick: 1, What: 4})
				stands(t, c, 0, api.State{Failed: true}, 1)
				continue
			}
			ticked(t, c, api.Event{Tick: at + 1, At: next})
			stands(t, c, 0, api.State{At: (next + 1) % ops}, 1)
		}
	}
}

// TestC1SoOftenAtMost: who fails at each tick is helped at each till it was helped so often; from then on it had failed ahead.
func TestC1SoOftenAtMost(t *testing.T) {
	for _, rule := range []int{api.Again, api.On} {
		for most := range 101 {
			c := made(t, parsed(t, "frame 1\nspan 0 1 0\nroom\nfail\n"), most, rule)
			for n := range most + 1 {
				ticked(t, c, api.Event{Tick: n, What: 4})
				stands(t, c, 0, api.State{Failed: true}, n)
			}
			for n := range 5 {
				ticked(t, c, api.Event{Tick: most + 1 + n, What: 5})
				stands(t, c, 0, api.State{Failed: true}, most)
			}
		}
	}
}

// TestC1OnlyAtItsOwnTick: neither a tick of another room nor one of nobody helps a room, and each room is helped by its own rule and counted by itself.
func TestC1OnlyAtItsOwnTick(t *testing.T) {
	text := "frame 5\nspan 0 1 0\nspan 1 2 1\nspan 3 4 2\nroom\nset 0 1\nfail\nroom\nset 0 2\nfail\nroom\nset 0 3\nfail\n"
	c := made(t, parsed(t, text), 2, api.Again, api.Stay, api.On)
	nobody := func(n int) api.Event { return api.Event{Tick: n, Room: -1} }
	ticked(t, c, api.Event{}, api.Event{Tick: 1, Room: 1}, nobody(2), api.Event{Tick: 3, Room: 2}, nobody(4))
	ticked(t, c, api.Event{Tick: 5, At: 1, What: 4})
	failed := func(n int) api.State { return api.State{At: 1, Cells: [6]int{n}, Failed: true} }
	stands(t, c, 0, failed(1), 0)
	ticked(t, c, api.Event{Tick: 6, Room: 1, At: 1, What: 4}, nobody(7))
	stands(t, c, 0, failed(1), 0)
	stands(t, c, 1, failed(2), 0)
	ticked(t, c, api.Event{Tick: 8, Room: 2, At: 1, What: 4}, nobody(9))
	stands(t, c, 0, failed(1), 0)
	stands(t, c, 2, failed(3), 0)
	ticked(t, c, api.Event{Tick: 10})
	stands(t, c, 0, api.State{At: 1, Cells: [6]int{1}}, 1)
	stands(t, c, 2, failed(3), 0)
	ticked(t, c, api.Event{Tick: 11, Room: 1, At: 1, What: 5}, nobody(12))
	stands(t, c, 1, failed(2), 0)
	stands(t, c, 2, failed(3), 0)
	ticked(t, c, api.Event{Tick: 13, Room: 2})
	stands(t, c, 0, api.State{At: 1, Cells: [6]int{1}}, 1)
	stands(t, c, 2, api.State{At: 1, Cells: [6]int{3}}, 1)
	for range 86 {
		c.Tick()
	}
	stands(t, c, 0, failed(1), 2)
	stands(t, c, 1, failed(2), 0)
	stands(t, c, 2, failed(3), 2)
}

// TestC1HelpedAndDoesEachOp: all that can come of a tick but 5 comes at the one at which a room is helped, too. Wire 1 holds 77 then, wire 2 is full, and wire 3 holds nothing.
func TestC1HelpedAndDoesEachOp(t *testing.T) {
	cases := []struct {
		op   string
		what int
		then api.State
	}{
		{"set 0 8\n", 0, api.State{At: 3, Cells: [6]int{8, 6}}},
		{"copy 0 1\n", 0, api.State{At: 3, Cells: [6]int{6, 6}}},
		{"add 0 1\n", 0, api.State{At: 3, Cells: [6]int{11, 6}}},
		{"sub 0 1\n", 0, api.State{At: 3, Cells: [6]int{999, 6}}},
		{"mul 0 1\n", 0, api.State{At: 3, Cells: [6]int{30, 6}}},
		{"zero 0 0\n", 0, api.State{At: 3, Cells: [6]int{5, 6}}},
		{"zero 2 0\n", 0, api.State{At: 0, Cells: [6]int{5, 6}}},
		{"jump 1\n", 0, api.State{At: 1, Cells: [6]int{5, 6}}},
		{"rest\n", 0, api.State{At: 3, Cells: [6]int{5, 6}}},
		{"send 0 0\n", 1, api.State{At: 3, Cells: [6]int{5, 6}}},
		{"take 0 1\n", 2, api.State{At: 3, Cells: [6]int{77, 6}}},
		{"send 0 2\n", 3, api.State{At: 3, Cells: [6]int{5, 6}}},
		{"take 0 3\n", 3, api.State{At: 2, Cells: [6]int{5, 6}}},
		{"fail\n", 4, api.State{At: 2, Cells: [6]int{5, 6}, Failed: true}},
	}
	for _, s := range cases {
		c := made(t, parsed(t, "frame 2\nspan 0 1 1\nspan 1 2 0\n"+
			"wire 0 1 2 1\nwire 1 0 1 1\nwire 0 1 2 1\nwire 1 0 2 1\n"+
			"room\nsend 0 2\nfail\n"+s.op+"rest\nroom\nset 0 77\nsend 0 1\nrest\n"), 1, api.On, api.Stay)
		poked(t, c, 0, 0, 5, api.OK)
		poked(t, c, 0, 1, 6, api.OK)
		ticked(t, c, api.Event{Room: 1}, api.Event{Tick: 1, What: 1})
		ticked(t, c, api.Event{Tick: 2, Room: 1, At: 1, What: 1}, api.Event{Tick: 3, At: 1, What: 4})
		ticked(t, c, api.Event{Tick: 4, Room: 1, At: 2}, api.Event{Tick: 5, At: 2, What: s.what})
		stands(t, c, 0, s.then, 1)
	}
}

// TestC1AgainLeavesTheWires: who is New finds on its wires what was there, and what it sent is there still.
func TestC1AgainLeavesTheWires(t *testing.T) {
	text := "frame 4\nspan 0 3 0\nspan 3 4 1\nwire 0 1 2 6\nroom\nset 0 9\nsend 0 0\nfail\nroom\ntake 0 0\nadd 1 0\n"
	c := made(t, parsed(t, text), 1, api.Again, api.Again)
	ticked(t, c, api.Event{}, api.Event{Tick: 1, At: 1, What: 1}, api.Event{Tick: 2, At: 2, What: 4}, api.Event{Tick: 3, Room: 1, What: 2})
	ticked(t, c, api.Event{Tick: 4}, api.Event{Tick: 5, At: 1, What: 1}, api.Event{Tick: 6, At: 2, What: 4}, api.Event{Tick: 7, Room: 1, At: 1})
	ticked(t, c, api.Event{Tick: 8, At: 2, What: 5}, api.Event{Tick: 9, At: 2, What: 5}, api.Event{Tick: 10, At: 2, What: 5}, api.Event{Tick: 11, Room: 1, What: 2})
	stands(t, c, 0, api.State{At: 2, Cells: [6]int{9}, Failed: true}, 1)
	stands(t, c, 1, api.State{At: 1, Cells: [6]int{9, 9}}, 0)
	// And a taker that is New takes what came next, not what it took ahead.
	text = "frame 2\nspan 0 1 0\nspan 1 2 1\nwire 0 1 2 6\nroom\nadd 0 1\nsend 0 0\nroom\ntake 0 0\nfail\n"
	c = made(t, parsed(t, text), 9, api.Stay, api.Again)
	poked(t, c, 0, 1, 1, api.OK)
	for n, want := range []api.Event{{What: 3}, {What: 2}, {At: 1, What: 4}, {What: 2}, {At: 1, What: 4}, {What: 2}} {
		c.Tick()
		want.Tick, want.Room = 2*n+1, 1
		ticked(t, c, want)
	}
	stands(t, c, 1, api.State{At: 1, Cells: [6]int{3}}, 2)
}

// TestC1Poke: of a room that has failed a cell is another number, which neither helps it nor counts; Again it is 0, On it stays.
func TestC1Poke(t *testing.T) {
	cases := []struct {
		rule, at, what, times int
		then                  api.State
	}{
		{api.Stay, 2, 5, 0, api.State{At: 2, Cells: [6]int{4: 999}, Failed: true}},
		{api.Again, 0, 0, 1, api.State{At: 2}},
		{api.On, 0, 0, 1, api.State{At: 2, Cells: [6]int{4: 999}}},
	}
	for _, s := range cases {
		c := made(t, parsed(t, "frame 1\nspan 0 1 0\nroom\njump 2\nrest\nfail\n"), 9, s.rule)
		ticked(t, c, api.Event{}, api.Event{Tick: 1, At: 2, What: 4})
		poked(t, c, 0, 4, 999, api.OK)
		stands(t, c, 0, api.State{At: 2, Cells: [6]int{4: 999}, Failed: true}, 0)
		ticked(t, c, api.Event{Tick: 2, At: s.at, What: s.what})
		stands(t, c, 0, s.then, s.times)
	}
}

// TestC1WhatIsNotThere: rooms that are not there have neither a state, nor times, nor cells.
func TestC1WhatIsNotThere(t *testing.T) {
	for rooms := 1; rooms <= 5; rooms++ {
		p := api.Plan{Code: slices.Repeat([][]api.Op{{{What: api.Fail}}}, rooms), Ticks: rooms}
		for r := range rooms {
			p.Spans = append(p.Spans, api.Span{From: r, To: r + 1, Room: r})
		}
		c := made(t, p, 3, slices.Repeat([]int{api.On}, rooms)...)
		for range 3 * rooms {
			c.Tick()
		}
		for _, r := range []int{math.MinInt, -1, 0, rooms - 1, rooms, rooms + 1, 5, 1000, math.MaxInt} {
			if 0 <= r && r < rooms {
				stands(t, c, r, api.State{Failed: true}, 2)
				poked(t, c, r, 0, 0, api.OK)
				continue
			}
			if s, err := c.State(r); s != (api.State{}) || plain.Told(err) != api.ErrRange {
				t.Errorf("State(%d) of %d: got %v, %v", r, rooms, s, err)
			}
			if n, err := c.Times(r); n != 0 || plain.Told(err) != api.ErrRange {
				t.Errorf("Times(%d) of %d: got %v, %v", r, rooms, n, err)
			}
			poked(t, c, r, 0, 0, api.ErrRange)
		}
	}
}

// TestC1PokeOfWrongNumbers: nothing is changed by them, whichever of the three are wrong.
func TestC1PokeOfWrongNumbers(t *testing.T) {
	c := made(t, parsed(t, "frame 1\nspan 0 1 0\nroom\nset 0 5\nfail\nroom\nrest\n"), 9, api.On, api.Stay)
	for range 5 {
		c.Tick()
	}
	poked(t, c, 0, 0, 0, api.OK)
	poked(t, c, 0, 5, 999, api.OK)
	poked(t, c, 1, 5, 998, api.OK)
	edges := func(last, bound int) []int {
		return []int{0, last, math.MinInt, -1000, -1, bound, bound + 1, math.MaxInt}
	}
	for i, r := range edges(1, 2) {
		for j, cell := range edges(5, 6) {
			for l, n := range edges(999, 1000) {
				if max(i, j, l) >= 2 {
					poked(t, c, r, cell, n, api.ErrRange)
				}
			}
		}
	}
	stands(t, c, 0, api.State{At: 1, Cells: [6]int{5: 999}}, 2)
	stands(t, c, 1, api.State{Cells: [6]int{5: 998}}, 0)
}

// TestP2ListsAreTheCallers: New writes into neither a plan nor its rules, nor behind them; and whoever changes them later changes no care.
func TestP2ListsAreTheCallers(t *testing.T) {
	text := "frame 2\nspan 0 1 0\nspan 1 2 1\nwire 0 1 2 1\nroom\nset 0 5\nsend 0 0\nfail\nroom\ntake 1 0\nfail\n"
	p := parsed(t, text)
	p.Code = append(make([][]api.Op, 0, 9), p.Code...)
	p.Spans = append(make([]api.Span, 0, 9), p.Spans...)
	p.Wires = append(make([]api.Wire, 0, 9), p.Wires...)
	p.Code[0] = append(make([]api.Op, 0, 9), p.Code[0]...)
	what := append(make([]int, 0, 9), api.Again, api.On)
	c, other := made(t, p, 5, what...), made(t, parsed(t, text), 5, api.Again, api.On)
	if got, err := plan.Print(p); got != text || err != nil || !slices.Equal(what, []int{api.Again, api.On}) {
		t.Errorf("the plan is %q, %v, the rules are %v now", got, err, what)
	}
	if p.Code[:3][2] != nil || p.Spans[:3][2] != (api.Span{}) || p.Wires[:2][1] != (api.Wire{}) || p.Code[0][:4][3] != (api.Op{}) || what[:3][2] != 0 {
		t.Errorf("behind the lists: %v, %v", p, what[:9])
	}
	for i := range p.Code {
		for j := range p.Code[i] {
			p.Code[i][j] = api.Op{What: api.Rest}
		}
		p.Code[i] = nil
	}
	clear(p.Spans)
	clear(p.Wires)
	clear(what)
	for range 60 {
		ticked(t, c, other.Tick())
		for r := range 2 {
			s, _ := other.State(r)
			n, _ := other.Times(r)
			stands(t, c, r, s, n)
		}
	}
	if n, _ := c.Times(0); n != 5 {
		t.Errorf("room 0 was helped %d times", n)
	}
}

// TestP2CaresAreApart: of two of one plan neither changes the other one; nor do State and Times, however often they are asked, nor who writes into a state that was told.
func TestP2CaresAreApart(t *testing.T) {
	p := parsed(t, "frame 1\nspan 0 1 0\nroom\nadd 0 1\nfail\n")
	a, b := made(t, p, 4, api.On), made(t, p, 4, api.On)
	poked(t, a, 0, 1, 3, api.OK)
	for range 5 {
		a.Tick()
		for range 3 {
			s, _ := a.State(0)
			s.At, s.Failed, s.Cells[5] = 1, !s.Failed, 1
			a.Times(0)
		}
	}
	stands(t, a, 0, api.State{At: 1, Cells: [6]int{9, 3}}, 2)
	stands(t, b, 0, api.State{}, 0)
	ticked(t, b, api.Event{}, api.Event{Tick: 1, At: 1, What: 4})
	stands(t, a, 0, api.State{At: 1, Cells: [6]int{9, 3}}, 2)
	stands(t, b, 0, api.State{At: 1, Failed: true}, 0)
}
