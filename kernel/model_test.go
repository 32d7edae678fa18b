package kernel

import (
	"slices"
	"testing"

	"framekeep/api"
)

// draw gives numbers that look like any, and are the same ones at each run.
type draw uint64

// below gives the next one, from 0 to below a bound.
func (d *draw) below(bound int) int {
	*d = *d*6364136223846793005 + 1442695040888963407
	return int(uint64(*d)>>33) % bound
}

// drawn is a plan that may be, of two rooms or more, most of whose ops send and take.
func drawn(d *draw) api.Plan {
	rooms := 2 + d.below(4)
	p := api.Plan{Ticks: 1 + d.below(12)}
	for from := 0; from < p.Ticks && len(p.Spans) < api.MaxSpans; {
		to := min(p.Ticks, from+1+d.below(3))
		if d.below(5) > 0 {
			p.Spans = append(p.Spans, api.Span{From: from, To: to, Room: d.below(rooms)})
		}
		from = to
	}
	for range d.below(api.MaxWires + 1) {
		from := d.below(rooms)
		w := api.Wire{From: from, To: (from + 1 + d.below(rooms-1)) % rooms, Kind: api.Sample, Deep: 1}
		if d.below(3) > 0 {
			w.Kind, w.Deep = api.Queue, 1+d.below(api.MaxDeep)
		}
		p.Wires = append(p.Wires, w)
	}
	for room := range rooms {
		p.Code = append(p.Code, drawnCode(d, room, p.Wires))
	}
	return p
}

// drawnCode is code of a room that may be, with these wires.
func drawnCode(d *draw, room int, wires []api.Wire) []api.Op {
	l := make([]api.Op, 1+d.below(api.MaxCode))
	for i := range l {
		o := api.Op{What: 1 + d.below(11), A: d.below(api.Cells)}
		if len(wires) > 0 && d.below(2) == 0 {
			o.What, o.B = api.Send, d.below(len(wires))
			if wires[o.B].To == room {
				o.What = api.Take
			} else if wires[o.B].From != room {
				o = api.Op{What: api.Add, A: o.A, B: d.below(api.Cells)}
			}
			l[i] = o
			continue
		}
		switch o.What {
		case api.Set:
			o.B = d.below(api.Modulo)
		case api.Copy, api.Add, api.Sub, api.Mul:
			o.B = d.below(api.Cells)
		case api.Zero:
			o.B = d.below(len(l))
		case api.Jump:
			o.A, o.B = 0, d.below(len(l))
		case api.Fail:
			o.A = 0
			if d.below(4) > 0 { // else nearly all rooms have failed soon
				o.What = api.Rest
			}
		default:
			o = api.Op{What: api.Rest}
		}
		l[i] = o
	}
	return l
}

// model of a kernel that calls no layer: its wires are all that was ever sent and was not lost, and from where on it is there.
type model struct {
	plan  api.Plan
	time  int
	rooms []api.State
	wires []track
}

type track struct {
	all        []int
	from, lost int
}

func (m *model) tick() api.Event {
	e := api.Event{Tick: m.time, Room: -1}
	for _, s := range m.plan.Spans {
		for t := s.From; t < s.To; t++ {
			if t == m.time%m.plan.Ticks {
				e.Room = s.Room
			}
		}
	}
	m.time++
	if e.Room < 0 {
		return e
	}
	s := &m.rooms[e.Room]
	e.At = s.At
	if s.Failed {
		e.What = 5
		return e
	}
	e.What = m.step(s, m.plan.Code[e.Room])
	return e
}

// step of a room that has not failed.
func (m *model) step(s *api.State, l []api.Op) int {
	o := l[s.At]
	next := (s.At + 1) % len(l)
	what := 0
	a, b := &s.Cells[o.A], 0
	if o.B < api.Cells {
		b = s.Cells[o.B]
	}
	switch o.What {
	case api.Set:
		*a = o.B
	case api.Copy:
		*a = b
	case api.Add:
		*a = (*a + b) % 1000
	case api.Sub:
		if *a -= b; *a < 0 {
			*a += 1000
		}
	case api.Mul:
		*a = *a * b % 1000
	case api.Zero:
		if *a == 0 {
			next = o.B
		}
	case api.Jump:
		next = o.B
	case api.Send:
		what = m.send(o.B, *a)
	case api.Take:
		w := &m.wires[o.B]
		if w.from == len(w.all) {
			return 3
		}
		*a, what = w.all[w.from], 2
		if m.plan.Wires[o.B].Kind == api.Queue {
			w.from++
		}
	case api.Fail:
		s.Failed = true
		return 4
	}
	s.At = next
	return what
}

func (m *model) send(i, n int) int {
	w, of := &m.wires[i], m.plan.Wires[i]
	if of.Kind == api.Queue && len(w.all)-w.from == of.Deep {
		w.lost++
		return 3
	}
	w.all = append(w.all, n)
	if of.Kind == api.Sample {
		w.from = len(w.all) - 1
	}
	return 1
}

func (m *model) view() view {
	v := view{time: m.time, rooms: slices.Clone(m.rooms)}
	for _, w := range m.wires {
		v.wires = append(v.wires, api.Held{Items: w.all[w.from:], Lost: w.lost})
	}
	return v
}

// TestK1AsTheModel: many plans, with a poke now and then, tick by tick; and each What comes often enough that all of them are tried.
func TestK1AsTheModel(t *testing.T) {
	var d draw
	var counts [6]int
	for n := range 2000 {
		p := drawn(&d)
		k, err := New(p)
		if err != nil {
			t.Fatalf("plan %d: New(%v): got %v", n, p, err)
		}
		m := &model{plan: p, rooms: make([]api.State, len(p.Code)), wires: make([]track, len(p.Wires))}
		for range 60 {
			if d.below(4) == 0 {
				room, cell, number := d.below(len(p.Code)), d.below(api.Cells), d.below(api.Modulo)
				poked(t, k, room, cell, number, api.OK)
				m.rooms[room].Cells[cell] = number
			}
			ahead := seen(k)
			got, want := k.Tick(), m.tick()
			if got != want {
				t.Fatalf("plan %d: %v: got %v, want %v", n, p, got, want)
			}
			behind := seen(k)
			if !behind.same(m.view()) {
				t.Fatalf("plan %d: %v: behind %v: got %v, want %v", n, p, got, behind, m.view())
			}
			onlyItsOwn(t, p, got, ahead, behind)
			counts[got.What]++
		}
	}
	for what, c := range counts {
		if c < 200 {
			t.Errorf("What %d came %d times only", what, c)
		}
	}
}

// onlyItsOwn asks that a tick changes no room but the one that has it, and no wire but one that this room's op names.
func onlyItsOwn(t *testing.T, p api.Plan, e api.Event, ahead, behind view) {
	t.Helper()
	for r := range ahead.rooms {
		if r != e.Room && ahead.rooms[r] != behind.rooms[r] {
			t.Errorf("%v changed room %d", e, r)
		}
	}
	named := -1
	if e.Room >= 0 {
		if o := p.Code[e.Room][e.At]; o.What == api.Send || o.What == api.Take {
			named = o.B
		}
	}
	for i := range ahead.wires {
		if i != named && !sameHeld(ahead.wires[i], behind.wires[i]) {
			t.Errorf("%v changed wire %d", e, i)
		}
	}
}
