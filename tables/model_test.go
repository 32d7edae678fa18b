package tables

import (
	"slices"
	"testing"

	"framekeep/api"
	"framekeep/kernel"
	"framekeep/plan"
	"framekeep/room"
	"framekeep/wire"
)

// draw gives numbers that look like any, and are the same ones at each run.
type draw uint64

// below gives the next one, from 0 to below a bound.
func (d *draw) below(bound int) int {
	*d = *d*6364136223846793005 + 1442695040888963407
	return int(uint64(*d)>>33) % bound
}

// drawnList is a list that may be, in a frame of so many ticks; its spans are in any order.
func drawnList(d *draw, ticks, rooms, most int) []api.Span {
	var l []api.Span
	for from := 0; from < ticks && len(l) < most; {
		to := min(ticks, from+1+d.below(4))
		if d.below(5) > 0 {
			l = slices.Insert(l, d.below(len(l)+1), api.Span{From: from, To: to, Room: d.below(rooms)})
		}
		from = to
	}
	return l
}

// drawn is a plan that may be, without spans; many of its ops send and take.
func drawn(d *draw, ticks int) api.Plan {
	rooms := 2 + d.below(4)
	p := api.Plan{Ticks: ticks}
	for range d.below(5) {
		from := d.below(rooms)
		w := api.Wire{From: from, To: (from + 1 + d.below(rooms-1)) % rooms, Kind: api.Sample, Deep: 1}
		if d.below(3) > 0 {
			w.Kind, w.Deep = api.Queue, 1+d.below(6)
		}
		p.Wires = append(p.Wires, w)
	}
	for range rooms {
		p.Code = append(p.Code, rests(1+d.below(8)))
	}
	for _, l := range p.Code {
		for i := range l {
			l[i] = drawnOp(d, len(p.Wires))
			for plan.Check(p) != nil {
				l[i] = drawnOp(d, len(p.Wires))
			}
		}
	}
	return p
}

// drawnOp is an op that may be wrong where it is to stand.
func drawnOp(d *draw, wires int) api.Op {
	o := api.Op{What: 1 + d.below(40), A: d.below(6), B: d.below(12)}
	switch {
	case o.What > api.Fail: // more send than take: else nearly all rooms wait for each other soon
		o.B, o.What = d.below(max(1, wires)), api.Send
		if d.below(3) == 0 {
			o.What = api.Take
		}
	case o.What == api.Jump:
		o.A = 0
	case o.What == api.Rest || o.What == api.Fail:
		o.A, o.B = 0, 0
		if d.below(3) > 0 { // else nearly all rooms have failed soon
			o.What = api.Rest
		}
	}
	return o
}

// model of tables: whose tick is whose stands in a row of a frame for each list; steps and wires are those of chapters 2 and 4.
type model struct {
	plan      api.Plan
	rows      [][]int
	now, next int
	time      int
	rooms     []api.State
	lines     []*wire.Line
}

// modelled is the model of new tables.
func modelled(t *testing.T, p api.Plan, l [][]api.Span) *model {
	t.Helper()
	m := &model{plan: p, rooms: make([]api.State, len(p.Code))}
	for _, spans := range l {
		row := slices.Repeat([]int{-1}, p.Ticks)
		for _, s := range spans {
			for n := s.From; n < s.To; n++ {
				row[n] = s.Room
			}
		}
		m.rows = append(m.rows, row)
	}
	for _, w := range p.Wires {
		line, err := wire.New(w)
		if err != nil {
			t.Fatal(err)
		}
		m.lines = append(m.lines, line)
	}
	return m
}

// ask it for a list, which counts at once where a frame is about to begin.
func (m *model) ask(list int) {
	m.next = list
	m.settle()
}

// settle which list counts, where a frame is about to begin.
func (m *model) settle() {
	if m.time == m.time/m.plan.Ticks*m.plan.Ticks {
		m.now = m.next
	}
}

// tick of it.
func (m *model) tick(t *testing.T) api.Event {
	t.Helper()
	e := api.Event{Tick: m.time, Room: m.rows[m.now][m.time%m.plan.Ticks]}
	m.time++
	m.settle()
	if e.Room < 0 {
		return e
	}
	s, l := m.rooms[e.Room], m.plan.Code[e.Room]
	e.At = s.At
	if s.Failed {
		e.What = 5
		return e
	}
	got, is := 0, false
	if l[s.At].What == api.Take {
		got, is = m.lines[l[s.At].B].Peek()
	}
	then, sent, err := room.Step(l, s, got, is)
	if err != nil {
		t.Fatal(err)
	}
	m.rooms[e.Room] = then
	e.What = m.came(l[s.At], is, sent)
	return e
}

// came tells what came of an op, and takes and sends by it.
func (m *model) came(o api.Op, is bool, sent int) int {
	switch o.What {
	case api.Fail:
		return 4
	case api.Take:
		if !is {
			return 3
		}
		m.lines[o.B].Take()
		return 2
	case api.Send:
		if there, _ := m.lines[o.B].Send(sent); !there {
			return 3
		}
		return 1
	}
	return 0
}

// TestT1AsTheModel: many plans with all numbers of lists, asked for now and then, tick by tick; each list counts, and each What comes, often enough that all of them are tried.
func TestT1AsTheModel(t *testing.T) {
	var d draw
	var whats [6]int
	var lists [4]int
	for range 1500 {
		p := drawn(&d, 1+d.below(12))
		l := make([][]api.Span, 1+d.below(4))
		for i := range l {
			l[i] = drawnList(&d, p.Ticks, len(p.Code), 12)
		}
		x, m := made(t, p, l...), modelled(t, p, l)
		for range 120 {
			for d.below(5) == 0 {
				list := d.below(len(l))
				m.ask(list)
				asked(t, x, list, api.OK, m.now)
			}
			counts(t, x, m.now)
			lists[m.now]++
			want := m.tick(t)
			whats[want.What]++
			ticked(t, x, want)
			counts(t, x, m.now)
			for r := range p.Code {
				stands(t, x, r, m.rooms[r])
			}
		}
		if t.Failed() {
			t.Fatalf("of %v, %v", p, l)
		}
	}
	for what, n := range whats {
		if n < 300 {
			t.Errorf("What %d came %d times only", what, n)
		}
	}
	for list, n := range lists {
		if n < 5000 {
			t.Errorf("list %d counted %d times only", list, n)
		}
	}
}

// TestT1AsOneLongFrame: some frames, each by a list that was asked for at any tick of the one ahead, are one frame of a kernel that is so much longer.
func TestT1AsOneLongFrame(t *testing.T) {
	var d draw
	for range 1500 {
		frames := 1 + d.below(4)
		p := drawn(&d, 1+d.below(10))
		l := make([][]api.Span, 1+d.below(4))
		for i := range l {
			l[i] = drawnList(&d, p.Ticks, len(p.Code), 3)
		}
		order := make([]int, frames+1) // one that is asked for in the last frame counts no more
		long := p
		long.Ticks *= frames
		for f := range frames {
			order[f+1] = d.below(len(l))
			for _, s := range l[order[f]] {
				long.Spans = append(long.Spans, api.Span{From: s.From + f*p.Ticks, To: s.To + f*p.Ticks, Room: s.Room})
			}
		}
		k, err := kernel.New(long)
		if err != nil {
			t.Fatal(err)
		}
		x := made(t, p, l...)
		for f := range frames {
			ahead := 1 + d.below(p.Ticks)
			for n := range p.Ticks {
				counts(t, x, order[f])
				ticked(t, x, k.Tick())
				if n+1 == ahead {
					asked(t, x, order[f+1], api.OK, order[f+ahead/p.Ticks])
				}
				for r := range p.Code {
					s, _ := k.State(r)
					stands(t, x, r, s)
				}
			}
		}
		if t.Failed() {
			t.Fatalf("of %v, %v by %v", p, l, order)
		}
	}
}

// TestT1AskedForNothingElseAsTheKernel: while only the list that counts is asked for, nothing is other than in a kernel with its spans, whatever the other lists are.
func TestT1AskedForNothingElseAsTheKernel(t *testing.T) {
	var d draw
	for range 500 {
		p := drawn(&d, 1+d.below(40))
		l := make([][]api.Span, 1+d.below(4))
		for i := range l {
			l[i] = drawnList(&d, p.Ticks, len(p.Code), 12)
		}
		list := d.below(len(l))
		alike := p
		alike.Spans = l[list]
		k, err := kernel.New(alike)
		if err != nil {
			t.Fatal(err)
		}
		x := made(t, p, l...)
		asked(t, x, list, api.OK, list)
		for range 150 {
			ticked(t, x, k.Tick())
			if d.below(3) == 0 {
				asked(t, x, list, api.OK, list)
			}
			for r := range p.Code {
				s, _ := k.State(r)
				stands(t, x, r, s)
			}
		}
		if t.Failed() {
			t.Fatalf("list %d of %v, %v", list, p, l)
		}
	}
}
