package purge

import (
	"testing"

	"framekeep/api"
	"framekeep/kernel"
)

// draw gives numbers that look like any, and are the same ones at each run.
type draw uint64

// below gives the next one, from 0 to below a bound.
func (d *draw) below(bound int) int {
	*d = *d*6364136223846793005 + 1442695040888963407
	return int(uint64(*d)>>33) % bound
}

// drawn is a plan that may be, of two rooms or more, most of whose ops send and take.
func drawn(d *draw) api.Plan {
	rooms := 2 + d.below(4)
	p := api.Plan{Ticks: 1 + d.below(12)}
	for from := 0; from < p.Ticks && len(p.Spans) < 12; {
		to := min(p.Ticks, from+1+d.below(3))
		if d.below(5) > 0 {
			p.Spans = append(p.Spans, api.Span{From: from, To: to, Room: d.below(rooms)})
		}
		from = to
	}
	// Few wires: of many, nearly all rooms reach all others.
	for range d.below(6) {
		from := d.below(rooms)
		w := api.Wire{From: from, To: (from + 1 + d.below(rooms-1)) % rooms, Kind: api.Sample, Deep: 1}
		if d.below(3) > 0 {
			w.Kind, w.Deep = api.Queue, 1+d.below(6)
		}
		p.Wires = append(p.Wires, w)
	}
	for room := range rooms {
		l := make([]api.Op, 1+d.below(6))
		for i := range l {
			l[i] = drawnOp(d, room, len(l), p.Wires)
		}
		p.Code = append(p.Code, l)
	}
	return p
}

// drawnOp is an op that may be in code of a room that is so long, with these wires.
func drawnOp(d *draw, room, long int, wires []api.Wire) api.Op {
	a, b := d.below(6), d.below(6)
	if len(wires) > 0 {
		i := d.below(len(wires))
		switch room {
		case wires[i].From:
			return api.Op{What: api.Send, A: a, B: i}
		case wires[i].To:
			return api.Op{What: api.Take, A: a, B: i}
		}
	}
	switch d.below(8) {
	case 0:
		return api.Op{What: api.Zero, A: a, B: d.below(long)}
	case 1:
		return api.Op{What: api.Mul, A: a, B: b}
	case 2:
		return api.Op{What: api.Add, A: a, B: b}
	case 3:
		if d.below(4) == 0 { // else nearly all rooms have failed soon
			return api.Op{What: api.Fail}
		}
	}
	return api.Op{What: api.Set, A: a, B: d.below(1000)}
}

// tells is which rooms reach a room: those at whose wires it is found again and again, until no more come.
func tells(wires []api.Wire, room int) map[int]bool {
	out := map[int]bool{room: true}
	for more := true; more; {
		more = false
		for _, w := range wires {
			if out[w.To] && !out[w.From] {
				out[w.From], more = true, true
			}
		}
	}
	return out
}

// apart is ahead of which of n ticks a room is not the same in two kernels, -1 if it is all along.
func apart(t *testing.T, p, q api.Plan, n, room int) int {
	t.Helper()
	a, err := kernel.New(p)
	b, bad := kernel.New(q)
	if err != nil || bad != nil {
		t.Fatalf("New: got %v of %v, %v of %v", err, p, bad, q)
	}
	for tick := range n + 1 {
		s, _ := a.State(room)
		o, _ := b.State(room)
		if s != o {
			return tick
		}
		a.Tick()
		b.Tick()
	}
	return -1
}

// TestP1WhoCannotTellDoesNotMatter: of many plans Purge leaves who reaches a room, and lets all others rest; the room goes on as it did, and Same tells so; a second time nothing changes.
func TestP1WhoCannotTellDoesNotMatter(t *testing.T) {
	var d draw
	idle, told := 0, 0
	for range 1000 {
		p := drawn(&d)
		room := d.below(len(p.Code))
		reach := tells(p.Wires, room)
		var rest []int
		for r := range p.Code {
			if !reach[r] {
				rest = append(rest, r)
			}
		}
		idle, told = idle+len(rest), told+len(reach)-1
		leaves(t, p, room, rest...)
		q := purged(t, p, room)
		leaves(t, q, room)
		same(t, p, q, 200, room, -1)
	}
	if idle < 500 || told < 500 {
		t.Errorf("of all rooms only %d rest, and %d tell", idle, told)
	}
}

// TestP1SameAsTwoKernels: of plans of which one room has other code, and of those that have nothing in common, Same tells what two kernels show.
func TestP1SameAsTwoKernels(t *testing.T) {
	var d draw
	found, never := 0, 0
	for range 1000 {
		p, q := drawn(&d), drawn(&d)
		if d.below(2) == 0 {
			q = copied(p)
			other := d.below(len(q.Code))
			q.Code[other] = []api.Op{drawnOp(&d, other, 1, q.Wires)}
		}
		room := d.below(min(len(p.Code), len(q.Code)))
		n := d.below(60)
		want := apart(t, p, q, n, room)
		same(t, p, q, n, room, want)
		if want < 0 {
			never++
		} else {
			found++
		}
	}
	if found < 100 || never < 100 {
		t.Errorf("only %d are apart, and %d the same", found, never)
	}
}
