package alone

import (
	"testing"

	"framekeep/api"
	"framekeep/kernel"
)

// draw gives numbers that look like any, and are the same ones at each run.
type draw uint64

// below gives the next one, from 0 to below a bound.
func (d *draw) below(bound int) int {
	*d = *d*6364136223846793005 + 1442695040888963407
	return int(uint64(*d)>>33) % bound
}

// drawn is a plan that may be, of two rooms or more, most of whose ops send and take.
func drawn(d *draw) api.Plan {
	rooms := 2 + d.below(4)
	p := api.Plan{Ticks: 1 + d.below(12)}
	for from := 0; from < p.Ticks && len(p.Spans) < 12; {
		to := min(p.Ticks, from+1+d.below(3))
		if d.below(5) > 0 {
			p.Spans = append(p.Spans, api.Span{From: from, To: to, Room: d.below(rooms)})
		}
		from = to
	}
	for range d.below(13) {
		from := d.below(rooms)
		w := api.Wire{From: from, To: (from + 1 + d.below(rooms-1)) % rooms, Kind: api.Sample, Deep: 1}
		if d.below(3) > 0 {
			w.Kind, w.Deep = api.Queue, 1+d.below(6)
		}
		p.Wires = append(p.Wires, w)
	}
	for room := range rooms {
		l := make([]api.Op, 1+d.below(20))
		for i := range l {
			l[i] = drawnOp(d, room, len(l), p.Wires)
		}
		p.Code = append(p.Code, l)
	}
	return p
}

// drawnOp is an op that may be in code of a room that is so long, with these wires.
func drawnOp(d *draw, room, long int, wires []api.Wire) api.Op {
	a, b := d.below(6), d.below(6)
	if len(wires) > 0 {
		i := d.below(len(wires))
		switch room {
		case wires[i].From:
			return api.Op{What: api.Send, A: a, B: i}
		case wires[i].To:
			return api.Op{What: api.Take, A: a, B: i}
		}
	}
	switch what := 1 + d.below(11); what {
	case api.Copy, api.Add, api.Sub, api.Mul:
		return api.Op{What: what, A: a, B: b}
	case api.Zero:
		return api.Op{What: what, A: a, B: d.below(long)}
	case api.Jump:
		return api.Op{What: what, B: d.below(long)}
	case api.Rest:
		return api.Op{What: what}
	case api.Fail:
		if d.below(4) == 0 { // else nearly all rooms have failed soon
			return api.Op{What: what}
		}
	}
	return api.Op{What: api.Set, A: a, B: d.below(1000)}
}

// model of a room that calls no layer.
type model struct {
	l     []api.Op
	room  int
	s     api.State
	turns int
}

// step of it, with what can be taken: the event, and what is sent.
func (m *model) step(got int, is bool) (api.Event, int) {
	e := api.Event{Tick: m.turns, Room: m.room, At: m.s.At}
	m.turns++
	if m.s.Failed {
		e.What = 5
		return e, -1
	}
	o, c, sent := m.l[m.s.At], &m.s.Cells, -1
	next := (m.s.At + 1) % len(m.l)
	switch o.What {
	case api.Set:
		c[o.A] = o.B
	case api.Copy:
		c[o.A] = c[o.B]
	case api.Add:
		c[o.A] = (c[o.A] + c[o.B]) % 1000
	case api.Sub:
		if c[o.A] -= c[o.B]; c[o.A] < 0 {
			c[o.A] += 1000
		}
	case api.Mul:
		c[o.A] = c[o.A] * c[o.B] % 1000
	case api.Zero:
		if c[o.A] == 0 {
			next = o.B
		}
	case api.Jump:
		next = o.B
	case api.Send:
		e.What, sent = 1, c[o.A]
	case api.Take:
		if is {
			e.What, c[o.A] = 2, got
		} else {
			e.What, next = 3, m.s.At
		}
	case api.Fail:
		e.What, next, m.s.Failed = 4, m.s.At, true
	}
	m.s.At = next
	return e, sent
}

// TestA1AsTheModel: each room of many plans, step by step, whatever is there to be taken, with a wrong number now and then; and each What comes often enough that all of them are tried.
func TestA1AsTheModel(t *testing.T) {
	var d draw
	var counts [6]int
	for range 1000 {
		p := drawn(&d)
		for room := range p.Code {
			a, m := made(t, p, room), &model{l: p.Code[room], room: room}
			for range 60 {
				if d.below(8) == 0 {
					failed(t, a, outside()[d.below(len(outside()))])
				}
				got := d.below(1000)
				if d.below(3) == 0 {
					got = nothing
				}
				if o := m.l[m.s.At]; a.Next() != o {
					t.Errorf("Next: got %v, want %v", a.Next(), o)
				}
				want, sent := m.step(offer(got))
				stepped(t, a, got, want, sent)
				stands(t, a, m.s, m.turns)
				counts[want.What]++
			}
			if t.Failed() {
				t.Fatalf("room %d of %v", room, p)
			}
		}
	}
	for what, c := range counts {
		if c < 200 {
			t.Errorf("What %d came %d times only", what, c)
		}
	}
}

// peeked is what a kernel's room finds on the wire from which its next op takes.
func peeked(t *testing.T, k *kernel.Kernel, l []api.Op, s api.State) int {
	t.Helper()
	if l[s.At].What != api.Take {
		return nothing
	}
	h, err := k.Wire(l[s.At].B)
	if err != nil {
		t.Fatal(err)
	}
	if len(h.Items) == 0 {
		return nothing
	}
	return h.Items[0]
}

// TestA1AsInAKernel: a room on a machine of its own, stepped when it has a tick in a kernel and with what it finds there, does what it does there; but what is lost there is there alone.
func TestA1AsInAKernel(t *testing.T) {
	var d draw
	lost, steps := 0, 0
	for range 600 {
		p := drawn(&d)
		k, err := kernel.New(p)
		if err != nil {
			t.Fatal(err)
		}
		var rooms []*Alone
		for room := range p.Code {
			rooms = append(rooms, made(t, p, room))
		}
		for range 120 {
			states := make([]api.State, len(rooms))
			offers := make([]int, len(rooms))
			for room := range rooms {
				states[room], _ = k.State(room)
				offers[room] = peeked(t, k, p.Code[room], states[room])
			}
			e := k.Tick()
			if e.Room < 0 {
				continue
			}
			a, o, s := rooms[e.Room], p.Code[e.Room][e.At], states[e.Room]
			want, sent := api.Event{Tick: a.Turns(), Room: e.Room, At: e.At, What: e.What}, -1
			if o.What == api.Send && !s.Failed {
				if e.What == kernel.Lacked {
					lost++
				}
				want.What, sent = kernel.Sent, s.Cells[o.A]
			}
			stepped(t, a, offers[e.Room], want, sent)
			then, _ := k.State(e.Room)
			stands(t, a, then, want.Tick+1)
			steps++
		}
		if t.Failed() {
			t.Fatalf("of %v", p)
		}
	}
	if lost < 500 || steps < 20000 {
		t.Errorf("only %d steps, and %d lost", steps, lost)
	}
}
