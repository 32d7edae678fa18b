package kernel

import (
	"math"
	"testing"

	"framekeep/api"
	"framekeep/plain"
)

// cord is a wire that may be.
func cord(kind, deep int) api.Wire { return api.Wire{From: 0, To: 1, Kind: kind, Deep: deep} }

// laid is lines of wires.
func laid(t *testing.T, wires ...api.Wire) Lines {
	t.Helper()
	l, err := NewLines(wires)
	if len(l) != len(wires) || err != nil {
		t.Fatalf("NewLines(%v): got %v, %v", wires, l, err)
	}
	return l
}

// lie asks what each of the lines holds, and how many of it were lost.
func lie(t *testing.T, l Lines, want ...api.Held) {
	t.Helper()
	for i, line := range l {
		if got := line.Held(); !sameHeld(got, want[i]) {
			t.Errorf("line %d: got %v, want %v", i, got, want[i])
		}
	}
}

// offered asks what Offer tells of an op.
func offered(t *testing.T, l Lines, o api.Op, want int, is bool) {
	t.Helper()
	if n, got := l.Offer(o); n != want || got != is {
		t.Errorf("Offer(%v): got %d, %v, want %d, %v", o, n, got, want, is)
	}
}

// settled asks what Settle tells of an op and what is sent.
func settled(t *testing.T, l Lines, o api.Op, sent, want int) {
	t.Helper()
	if got := l.Settle(o, sent); got != want {
		t.Errorf("Settle(%v, %d): got %d, want %d", o, sent, got, want)
	}
}

// TestNewLines: a line for each wire, in their order, each of its own kind and depth, and apart from the others.
func TestNewLines(t *testing.T) {
	laid(t)
	wires := []api.Wire{cord(api.Queue, 1), cord(api.Sample, 1), cord(api.Queue, 6), cord(api.Queue, 2)}
	l := laid(t, wires...)
	lie(t, l, make([]api.Held, 4)...)
	clear(wires)
	for i := range l {
		for n := range 3 {
			l.Settle(api.Op{What: api.Send, B: i}, 10*i+n)
		}
	}
	lie(t, l, api.Held{Items: []int{0}, Lost: 2}, api.Held{Items: []int{12}}, api.Held{Items: []int{20, 21, 22}}, api.Held{Items: []int{30, 31}, Lost: 1})
}

// TestNewLinesOfWrongWires: what is wrong with the first wrong one is told, and there is no line.
func TestNewLinesOfWrongWires(t *testing.T) {
	right, deep, around := cord(api.Queue, 3), cord(api.Sample, 2), api.Wire{From: 1, To: 1, Kind: api.Queue, Deep: 1}
	for _, c := range []struct {
		want  api.Errno
		wires []api.Wire
	}{
		{api.ErrRange, []api.Wire{{}}},
		{api.ErrRange, []api.Wire{right, right, deep}},
		{api.ErrRange, []api.Wire{right, deep, around}},
		{api.ErrShape, []api.Wire{around, deep, right}},
		{api.ErrShape, []api.Wire{right, around}},
	} {
		if l, err := NewLines(c.wires); l != nil || plain.Told(err) != c.want {
			t.Errorf("NewLines(%v): got %v, %v, want %v", c.wires, l, err, c.want)
		}
	}
}

// TestOfferAndSettle: what an op that takes is offered is taken when it is settled, and not ahead of that; no other op is offered anything.
func TestOfferAndSettle(t *testing.T) {
	l := laid(t, cord(api.Queue, 2), cord(api.Sample, 1))
	sends := func(i int) api.Op { return api.Op{What: api.Send, A: 5, B: i} }
	takes := func(i int) api.Op { return api.Op{What: api.Take, A: 4, B: i} }
	for i := range 2 {
		offered(t, l, takes(i), 0, false)
		settled(t, l, takes(i), -1, Lacked)
	}
	settled(t, l, sends(0), 0, Sent)
	settled(t, l, sends(0), 999, Sent)
	settled(t, l, sends(0), 5, Lacked)
	settled(t, l, sends(1), 7, Sent)
	settled(t, l, sends(1), 8, Sent)
	lie(t, l, api.Held{Items: []int{0, 999}, Lost: 1}, api.Held{Items: []int{8}})
	for what := api.Set; what <= api.Fail; what++ {
		if what == api.Take {
			continue
		}
		offered(t, l, api.Op{What: what, B: 1}, 0, false)
		if what != api.Send {
			settled(t, l, api.Op{What: what, B: 1}, -1, Went)
		}
	}
	for range 3 {
		offered(t, l, takes(0), 0, true)
		offered(t, l, takes(1), 8, true)
	}
	settled(t, l, takes(0), -1, Took)
	settled(t, l, takes(1), -1, Took)
	lie(t, l, api.Held{Items: []int{999}, Lost: 1}, api.Held{Items: []int{8}})
	offered(t, l, takes(0), 999, true)
	settled(t, l, takes(0), -1, Took)
	offered(t, l, takes(0), 0, false)
	settled(t, l, takes(0), -1, Lacked)
	offered(t, l, takes(1), 8, true)
}

// TestLinesThatAreNotThere: nothing is there to be taken, and what is sent is lost, as is a number that may not be sent; no line is changed.
func TestLinesThatAreNotThere(t *testing.T) {
	l := laid(t, cord(api.Queue, 3), cord(api.Sample, 1))
	for i := range l {
		settled(t, l, api.Op{What: api.Send, B: i}, 4+i, Sent)
	}
	for _, i := range []int{math.MinInt, -1, 2, 12, math.MaxInt} {
		offered(t, l, api.Op{What: api.Take, B: i}, 0, false)
		settled(t, l, api.Op{What: api.Take, B: i}, -1, Lacked)
		settled(t, l, api.Op{What: api.Send, B: i}, 9, Lacked)
	}
	for _, n := range []int{math.MinInt, -1, 1000, math.MaxInt} {
		settled(t, l, api.Op{What: api.Send, B: 0}, n, Lacked)
		settled(t, l, api.Op{What: api.Send, B: 1}, n, Lacked)
	}
	for _, what := range []int{math.MinInt, -1, 0, 12, math.MaxInt} {
		offered(t, l, api.Op{What: what}, 0, false)
		settled(t, l, api.Op{What: what}, 3, Went)
	}
	lie(t, l, api.Held{Items: []int{4}}, api.Held{Items: []int{5}})
}
