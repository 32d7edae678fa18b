package spread

import (
	"testing"

	"framekeep/alone"
	"framekeep/api"
	"framekeep/kernel"
)

// draw gives numbers that look like any, and are the same ones at each run.
type draw uint64

// below gives the next one, from 0 to below a bound.
func (d *draw) below(bound int) int {
	*d = *d*6364136223846793005 + 1442695040888963407
	return int(uint64(*d)>>33) % bound
}

// drawn is a plan that may be, of two rooms or more, most of whose ops send and take.
func drawn(d *draw) api.Plan {
	rooms := 2 + d.below(4)
	p := api.Plan{Ticks: 1 + d.below(12)}
	for from := 0; from < p.Ticks && len(p.Spans) < 12; {
		to := min(p.Ticks, from+1+d.below(3))
		if d.below(5) > 0 {
			p.Spans = append(p.Spans, api.Span{From: from, To: to, Room: d.below(rooms)})
		}
		from = to
	}
	for range d.below(13) {
		from := d.below(rooms)
		w := api.Wire{From: from, To: (from + 1 + d.below(rooms-1)) % rooms, Kind: api.Sample, Deep: 1}
		if d.below(3) > 0 {
			w.Kind, w.Deep = api.Queue, 1+d.below(6)
		}
		p.Wires = append(p.Wires, w)
	}
	for room := range rooms {
		l := make([]api.Op, 1+d.below(20))
		for i := range l {
			l[i] = drawnOp(d, room, len(l), p.Wires)
		}
		p.Code = append(p.Code, l)
	}
	return p
}

// drawnOp is an op that may be in code of a room that is so long, with these wires.
func drawnOp(d *draw, room, long int, wires []api.Wire) api.Op {
	a, b := d.below(6), d.below(6)
	if len(wires) > 0 {
		i := d.below(len(wires))
		switch room {
		case wires[i].From:
			return api.Op{What: api.Send, A: a, B: i}
		case wires[i].To:
			return api.Op{What: api.Take, A: a, B: i}
		}
	}
	switch what := 1 + d.below(11); what {
	case api.Copy, api.Add, api.Sub, api.Mul:
		return api.Op{What: what, A: a, B: b}
	case api.Zero:
		return api.Op{What: what, A: a, B: d.below(long)}
	case api.Jump:
		return api.Op{What: what, B: d.below(long)}
	case api.Rest:
		return api.Op{What: what}
	case api.Fail:
		if d.below(4) == 0 { // else nearly all rooms have failed soon
			return api.Op{What: what}
		}
	}
	return api.Op{What: api.Set, A: a, B: d.below(1000)}
}

// onOne makes the kernel of a plan: all rooms on one machine.
func onOne(t *testing.T, p api.Plan) *kernel.Kernel {
	t.Helper()
	k, err := kernel.New(p)
	if err != nil {
		t.Fatalf("kernel.New(%v): got %v", p, err)
	}
	return k
}

// TestS1AsAKernel: the rooms of many plans do tick by tick on machines of their own what they do on one, and so do the wires; and each What comes often enough that all of them are tried.
func TestS1AsAKernel(t *testing.T) {
	var d draw
	var counts [6]int
	lost := 0
	for n := range 2000 {
		p := drawn(&d)
		s, k := made(t, p), onOne(t, p)
		for range 90 {
			got, want := s.Tick(), k.Tick()
			if got != want {
				t.Fatalf("plan %d: %v: got %v, want %v", n, p, got, want)
			}
			if a, b := seen(s), seen(k); !a.same(b) {
				t.Fatalf("plan %d: %v: behind %v: got %v, want %v", n, p, got, a, b)
			}
			counts[got.What]++
			if got.What == kernel.Lacked && p.Code[got.Room][got.At].What == api.Send {
				lost++
			}
		}
	}
	for what, c := range counts {
		if c < 100 {
			t.Errorf("What %d came %d times only", what, c)
		}
	}
	if lost < 1000 {
		t.Errorf("only %d were lost", lost)
	}
}

// TestS1AsAKernelForLong: as many ticks as any layer goes through in one call.
func TestS1AsAKernelForLong(t *testing.T) {
	var d draw
	for n := range 60 {
		p := drawn(&d)
		s, k := made(t, p), onOne(t, p)
		for range api.MaxTicks {
			if got, want := s.Tick(), k.Tick(); got != want {
				t.Fatalf("plan %d: %v: got %v, want %v", n, p, got, want)
			}
		}
		if a, b := seen(s), seen(k); !a.same(b) {
			t.Fatalf("plan %d: %v: got %v, want %v", n, p, a, b)
		}
	}
}

// TestS1EachIsAnAlone: the state of each room is that of a machine by itself that did as many steps, and was offered what this room took.
func TestS1EachIsAnAlone(t *testing.T) {
	var d draw
	steps := 0
	for n := range 500 {
		p := drawn(&d)
		s := made(t, p)
		var rooms []*alone.Alone
		for r := range p.Code {
			a, err := alone.New(p, r)
			if err != nil {
				t.Fatal(err)
			}
			rooms = append(rooms, a)
		}
		for range 90 {
			e := s.Tick()
			if e.Room < 0 {
				continue
			}
			then, err := s.State(e.Room)
			if err != nil {
				t.Fatal(err)
			}
			got := 0
			if e.What == kernel.Took {
				got = then.Cells[p.Code[e.Room][e.At].A]
			}
			a := rooms[e.Room]
			own, _, err := a.Step(got, e.What == kernel.Took)
			if own.At != e.At || a.State() != then || err != nil {
				t.Fatalf("plan %d: %v: behind %v: got %v, by itself %v, %v, %v", n, p, e, then, own, a.State(), err)
			}
			steps++
		}
	}
	if steps < 20000 {
		t.Errorf("only %d steps", steps)
	}
}
