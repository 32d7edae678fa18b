package care

import (
	"slices"
	"testing"

	"framekeep/api"
	"framekeep/kernel"
	"framekeep/purge"
)

// draw gives numbers that look like any, and are the same ones at each run.
type draw uint64

// below gives the next one, from 0 to below a bound.
func (d *draw) below(bound int) int {
	*d = *d*6364136223846793005 + 1442695040888963407
	return int(uint64(*d)>>33) % bound
}

// drawn is a plan that may be, of two rooms or more, with few wires: of many, nearly all rooms reach all others.
func drawn(d *draw) api.Plan {
	rooms := 2 + d.below(4)
	p := api.Plan{Ticks: 1 + d.below(12)}
	for from := 0; from < p.Ticks && len(p.Spans) < 12; {
		to := min(p.Ticks, from+1+d.below(3))
		if d.below(5) > 0 {
			p.Spans = append(p.Spans, api.Span{From: from, To: to, Room: d.below(rooms)})
		}
		from = to
	}
	for range d.below(6) {
		from := d.below(rooms)
		w := api.Wire{From: from, To: (from + 1 + d.below(rooms-1)) % rooms, Kind: api.Sample, Deep: 1}
		if d.below(3) > 0 {
			w.Kind, w.Deep = api.Queue, 1+d.below(6)
		}
		p.Wires = append(p.Wires, w)
	}
	for room := range rooms {
		l := make([]api.Op, 1+d.below(8))
		for i := range l {
			l[i] = drawnOp(d, room, len(l), p.Wires)
		}
		p.Code = append(p.Code, l)
	}
	return p
}

// drawnOp is an op that may be in code of a room that is so long, with these wires; many fail.
func drawnOp(d *draw, room, long int, wires []api.Wire) api.Op {
	a, b := d.below(6), d.below(6)
	if len(wires) > 0 && d.below(3) > 0 {
		i := d.below(len(wires))
		switch room {
		case wires[i].From:
			return api.Op{What: api.Send, A: a, B: i}
		case wires[i].To:
			return api.Op{What: api.Take, A: a, B: i}
		}
	}
	switch what := 1 + d.below(13); what {
	case api.Copy, api.Add, api.Sub, api.Mul:
		return api.Op{What: what, A: a, B: b}
	case api.Zero:
		return api.Op{What: what, A: a, B: d.below(long)}
	case api.Jump:
		return api.Op{What: what, B: d.below(long)}
	case api.Rest:
		return api.Op{What: what}
	case api.Fail, 12, 13:
		return api.Op{What: api.Fail}
	}
	return api.Op{What: api.Set, A: a, B: d.below(1000)}
}

// drawnRules are rules of so many rooms, and how often at most.
func drawnRules(d *draw, rooms int) ([]int, int) {
	what := make([]int, rooms)
	for i := range what {
		what[i] = d.below(3)
	}
	return what, d.below(8)
}

// model of a care that calls no layer.
type model struct {
	plan  api.Plan
	what  []int
	most  int
	time  int
	rooms []api.State
	times []int
	wires [][]int
}

// modelled is the model of a new care.
func modelled(p api.Plan, what []int, most int) *model {
	return &model{
		plan: p, what: what, most: most,
		rooms: make([]api.State, len(p.Code)), times: make([]int, len(p.Code)), wires: make([][]int, len(p.Wires)),
	}
}

// tick of it.
func (m *model) tick() api.Event {
	e := api.Event{Tick: m.time, Room: -1}
	for _, s := range m.plan.Spans {
		for t := s.From; t < s.To; t++ {
			if t == m.time%m.plan.Ticks {
				e.Room = s.Room
			}
		}
	}
	m.time++
	if e.Room < 0 {
		return e
	}
	s, l := &m.rooms[e.Room], m.plan.Code[e.Room]
	if s.Failed && m.times[e.Room] < m.most && m.what[e.Room] > 0 {
		m.times[e.Room]++
		s.Failed = false
		if s.At++; s.At == len(l) {
			s.At = 0
		}
		if m.what[e.Room] == 1 {
			*s = api.State{}
		}
	}
	e.At, e.What = s.At, 5
	if !s.Failed {
		e.What = m.step(s, l)
	}
	return e
}

// step of a room that has not failed.
func (m *model) step(s *api.State, l []api.Op) int {
	o, c, what := l[s.At], &s.Cells, 0
	next := (s.At + 1) % len(l)
	switch o.What {
	case api.Set:
		c[o.A] = o.B
	case api.Copy:
		c[o.A] = c[o.B]
	case api.Add:
		c[o.A] = (c[o.A] + c[o.B]) % 1000
	case api.Sub:
		if c[o.A] -= c[o.B]; c[o.A] < 0 {
			c[o.A] += 1000
		}
	case api.Mul:
		c[o.A] = c[o.A] * c[o.B] % 1000
	case api.Zero:
		if c[o.A] == 0 {
			next = o.B
		}
	case api.Jump:
		next = o.B
	case api.Send:
		what = m.send(o.B, c[o.A])
	case api.Take:
		held := m.wires[o.B]
		if len(held) == 0 {
			return 3
		}
		c[o.A], what = held[0], 2
		if m.plan.Wires[o.B].Kind == api.Queue {
			m.wires[o.B] = held[1:]
		}
	case api.Fail:
		s.Failed = true
		return 4
	}
	s.At = next
	return what
}

// send a number on a wire.
func (m *model) send(i, n int) int {
	w := m.plan.Wires[i]
	switch {
	case w.Kind == api.Sample:
		m.wires[i] = []int{n}
	case len(m.wires[i]) == w.Deep:
		return 3
	default:
		m.wires[i] = append(slices.Clone(m.wires[i]), n)
	}
	return 1
}

// TestC1AsTheModel: many plans with all rules, with a poke now and then, tick by tick; and each What comes, and each rule helps, often enough that all of them are tried.
func TestC1AsTheModel(t *testing.T) {
	var d draw
	var counts [6]int
	var helped [3]int
	for range 2000 {
		p := drawn(&d)
		what, most := drawnRules(&d, len(p.Code))
		c, m := made(t, p, most, what...), modelled(p, what, most)
		for range 80 {
			if d.below(6) == 0 {
				room, cell, n := d.below(len(p.Code)), d.below(6), d.below(1000)
				poked(t, c, room, cell, n, api.OK)
				m.rooms[room].Cells[cell] = n
			}
			want := m.tick()
			ticked(t, c, want)
			counts[want.What]++
			for r := range p.Code {
				stands(t, c, r, m.rooms[r], m.times[r])
			}
		}
		if t.Failed() {
			t.Fatalf("of %v, %v, %d", p, what, most)
		}
		for r, n := range m.times {
			helped[what[r]] += n
		}
	}
	for what, n := range counts {
		if n < 200 {
			t.Errorf("What %d came %d times only", what, n)
		}
	}
	if helped[api.Stay] != 0 || helped[api.Again] < 1000 || helped[api.On] < 1000 {
		t.Errorf("by rule %v were helped", helped)
	}
}

// TestC1WithoutHelpAsTheKernel: if all rules are Stay, or most is 0, nothing is other than in a kernel.
func TestC1WithoutHelpAsTheKernel(t *testing.T) {
	var d draw
	for n := range 600 {
		p := drawn(&d)
		what, most := drawnRules(&d, len(p.Code))
		if n%2 == 0 {
			most = 0
		} else {
			clear(what)
		}
		c := made(t, p, most, what...)
		k, err := kernel.New(p)
		if err != nil {
			t.Fatal(err)
		}
		for range 80 {
			ticked(t, c, k.Tick())
			for r := range p.Code {
				s, _ := k.State(r)
				stands(t, c, r, s, 0)
			}
		}
		if t.Failed() {
			t.Fatalf("of %v, %v, %d", p, what, most)
		}
	}
}

// TestC1WhoCannotTellDoesNotMatter: a room goes on as it did, and is helped as often, without those that do not reach it, whoever failed, and was helped.
func TestC1WhoCannotTellDoesNotMatter(t *testing.T) {
	var d draw
	gone := 0
	for range 1000 {
		p := drawn(&d)
		what, most := drawnRules(&d, len(p.Code))
		room := d.below(len(p.Code))
		q, err := purge.Purge(p, room)
		if err != nil {
			t.Fatal(err)
		}
		c, without := made(t, p, most, what...), made(t, q, most, what...)
		for range 200 {
			e, o := c.Tick(), without.Tick()
			if e.Room != o.Room || e.Room == room && e != o && !sends(p, e) {
				t.Errorf("got %v without them, want %v", o, e)
			}
			s, _ := c.State(room)
			n, _ := c.Times(room)
			stands(t, without, room, s, n)
		}
		if t.Failed() {
			t.Fatalf("room %d of %v, %v, %d", room, p, what, most)
		}
		for r := range p.Code {
			n, _ := c.Times(r)
			m, _ := without.Times(r)
			gone += n - m
		}
	}
	if gone < 500 {
		t.Errorf("only %d times was a room helped that does not matter", gone)
	}
}

// sends tells whether an event is of an op that sends: who does not reach a room may take what it sends, so that there is room for more; the room's state does not tell.
func sends(p api.Plan, e api.Event) bool { return p.Code[e.Room][e.At].What == api.Send }
