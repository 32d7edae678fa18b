package snap

import (
	"strconv"
	"testing"

	"framekeep/api"
	"framekeep/kernel"
)

// draw gives numbers that look like any, and are the same ones at each run.
type draw uint64

// below gives the next one, from 0 to below a bound.
func (d *draw) below(bound int) int {
	*d = *d*6364136223846793005 + 1442695040888963407
	return int(uint64(*d)>>33) % bound
}

// drawn is a plan that may be, of two rooms or more, most of whose ops send and take.
func drawn(d *draw) api.Plan {
	rooms := 2 + d.below(4)
	p := api.Plan{Ticks: 1 + d.below(12)}
	for from := 0; from < p.Ticks && len(p.Spans) < 12; {
		to := min(p.Ticks, from+1+d.below(3))
		if d.below(5) > 0 {
			p.Spans = append(p.Spans, api.Span{From: from, To: to, Room: d.below(rooms)})
		}
		from = to
	}
	for range d.below(13) {
		from := d.below(rooms)
		w := api.Wire{From: from, To: (from + 1 + d.below(rooms-1)) % rooms, Kind: api.Sample, Deep: 1}
		if d.below(3) > 0 {
			w.Kind, w.Deep = api.Queue, 1+d.below(6)
		}
		p.Wires = append(p.Wires, w)
	}
	for room := range rooms {
		l := make([]api.Op, 1+d.below(20))
		for i := range l {
			l[i] = drawnOp(d, room, len(l), p.Wires)
		}
		p.Code = append(p.Code, l)
	}
	return p
}

// drawnOp is an op that may be in code of a room that is so long, with these wires.
func drawnOp(d *draw, room, long int, wires []api.Wire) api.Op {
	a, b := d.below(6), d.below(6)
	if len(wires) > 0 {
		i := d.below(len(wires))
		switch room {
		case wires[i].From:
			return api.Op{What: api.Send, A: a, B: i}
		case wires[i].To:
			return api.Op{What: api.Take, A: a, B: i}
		}
	}
	switch what := 1 + d.below(11); what {
	case api.Copy, api.Add, api.Sub, api.Mul:
		return api.Op{What: what, A: a, B: b}
	case api.Zero:
		return api.Op{What: what, A: a, B: d.below(long)}
	case api.Jump:
		return api.Op{What: what, B: d.below(long)}
	case api.Rest:
		return api.Op{What: what}
	case api.Fail:
		if d.below(4) == 0 { // else nearly all rooms have failed soon
			return api.Op{What: what}
		}
	}
	return api.Op{What: api.Set, A: a, B: d.below(1000)}
}

// written is what a kernel tells of itself, as a text, by a rule of the tests' own; what of all it tells comes in it is counted.
func written(k *kernel.Kernel, p api.Plan, counts map[string]int) string {
	text := "time " + strconv.Itoa(k.Time()) + "\n"
	for r := range p.Code {
		s, _ := k.State(r)
		text += "room " + strconv.Itoa(s.At)
		for _, c := range s.Cells {
			text += " " + strconv.Itoa(c)
		}
		if s.Failed {
			text += " 1\n"
			counts["failed"]++
		} else {
			text += " 0\n"
		}
	}
	for i, w := range p.Wires {
		h, _ := k.Wire(i)
		text += "wire " + strconv.Itoa(h.Lost)
		for _, n := range h.Items {
			text += " " + strconv.Itoa(n)
		}
		text += "\n"
		counts["lost"] += min(h.Lost, 1)
		if len(h.Items) == w.Deep {
			counts["full "+strconv.Itoa(w.Kind)]++
		}
	}
	return text
}

// TestS1GoesOnAsItDid: kernels of many plans, saved and loaded at some time, go on as those do that were not; and so does one that was loaded again and again.
func TestS1GoesOnAsItDid(t *testing.T) {
	var d draw
	counts := map[string]int{}
	for n := range 1000 {
		p := drawn(&d)
		k := made(t, p, d.below(80))
		if err := k.Poke(d.below(len(p.Code)), d.below(6), d.below(1000)); err != nil {
			t.Fatal(err)
		}
		text := written(k, p, counts)
		saves(t, k, p, text, api.OK)
		once := loaded(t, p, text)
		often := loaded(t, p, text)
		for range 40 {
			want := k.Tick()
			if a, b := once.Tick(), often.Tick(); a != want || b != want {
				t.Fatalf("plan %d: %v: from %q: got %v, %v, want %v", n, p, text, a, b, want)
			}
			now := written(k, p, counts)
			saves(t, once, p, now, api.OK)
			often = loaded(t, p, now)
		}
	}
	for _, what := range []string{"failed", "lost", "full 1", "full 2"} {
		if counts[what] < 1000 {
			t.Errorf("%s came %d times only", what, counts[what])
		}
	}
}
