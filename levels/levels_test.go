package levels

import (
	"math"
	"slices"
	"testing"

	"framekeep/api"
	"framekeep/flow"
	"framekeep/plain"
)

// cords are wires that may be, from room to room by two numbers each.
func cords(rooms ...int) []api.Wire {
	var out []api.Wire
	for i := 0; i+1 < len(rooms); i += 2 {
		out = append(out, api.Wire{From: rooms[i], To: rooms[i+1], Kind: api.Queue, Deep: 2})
	}
	return out
}

// around is so many wires that may be.
func around(n int) []api.Wire {
	var out []api.Wire
	for i := range n {
		out = append(out, cords(i%api.MaxRooms, (i+1)%api.MaxRooms)...)
	}
	return out
}

// rung asks for all that Rings answers.
func rung(t *testing.T, l []api.Wire, want ...[]int) {
	t.Helper()
	got, err := Rings(l)
	if !slices.EqualFunc(got, want, slices.Equal) || err != nil {
		t.Errorf("Rings(%v): got %v, %v, want %v", l, got, err, want)
	}
}

// leveled asks for all that Least answers.
func leveled(t *testing.T, l []api.Wire, want ...int) {
	t.Helper()
	got, err := Least(l)
	if !slices.Equal(got, want) || err != nil {
		t.Errorf("Least(%v): got %v, %v, want %v", l, got, err, want)
	}
}

// parted asks for all that Apart answers.
func parted(t *testing.T, l []api.Wire, a, b int, is bool, want api.Errno) {
	t.Helper()
	got, err := Apart(l, a, b)
	if got != is || plain.Told(err) != want {
		t.Errorf("Apart(%v, %d, %d): got %v, %v, want %v, %v", l, a, b, got, plain.Told(err), is, want)
	}
}

// refused asks for an error of all three, whichever rooms Apart is asked of.
func refused(t *testing.T, l []api.Wire, want api.Errno) {
	t.Helper()
	if got, err := Rings(l); got != nil || plain.Told(err) != want {
		t.Errorf("Rings(%v): got %v, %v, want %v", l, got, plain.Told(err), want)
	}
	if got, err := Least(l); got != nil || plain.Told(err) != want {
		t.Errorf("Least(%v): got %v, %v, want %v", l, got, plain.Told(err), want)
	}
	for _, a := range []int{-1, 0, 1, api.MaxRooms} {
		for _, b := range []int{-1, 0, 1, api.MaxRooms} {
			parted(t, l, a, b, false, want)
		}
	}
}

// TestL1OfNone: without wires each room is a ring of its own at level 0, and apart from all others.
func TestL1OfNone(t *testing.T) {
	for _, l := range [][]api.Wire{nil, {}} {
		rung(t, l, []int{0}, []int{1}, []int{2}, []int{3}, []int{4})
		leveled(t, l, 0, 0, 0, 0, 0)
		for a := range api.MaxRooms {
			for b := range api.MaxRooms {
				parted(t, l, a, b, a != b, api.OK)
			}
		}
	}
}

// TestL1RingsByTheirFirst: a ring stands where its first room does, and its rooms rise, however its wires stand.
func TestL1RingsByTheirFirst(t *testing.T) {
	rung(t, cords(4, 1, 1, 4), []int{0}, []int{1, 4}, []int{2}, []int{3})
	rung(t, cords(4, 0, 0, 4, 3, 1, 1, 3), []int{0, 4}, []int{1, 3}, []int{2})
	rung(t, cords(3, 2, 2, 3, 1, 0, 0, 1), []int{0, 1}, []int{2, 3}, []int{4})
	rung(t, cords(4, 2, 2, 0, 0, 4), []int{0, 2, 4}, []int{1}, []int{3})
	rung(t, around(api.MaxRooms), []int{0, 1, 2, 3, 4})
	rung(t, around(api.MaxRooms-1), []int{0}, []int{1}, []int{2}, []int{3}, []int{4})
}

// TestL1RingsOfRings: two that share a room are one; two with wires one way alone are two.
func TestL1RingsOfRings(t *testing.T) {
	rung(t, cords(0, 2, 2, 0, 4, 2, 2, 4), []int{0, 2, 4}, []int{1}, []int{3})
	rung(t, cords(0, 3, 3, 0, 3, 1, 0, 4, 1, 4, 4, 1), []int{0, 3}, []int{1, 4}, []int{2})
}

// TestL1LeastUp: each wire leads up, by no more than it must; the farthest way counts.
func TestL1LeastUp(t *testing.T) {
	leveled(t, cords(0, 1), 0, 1, 0, 0, 0)
	leveled(t, cords(4, 3), 0, 0, 0, 1, 0)
	leveled(t, cords(0, 1, 0, 1, 0, 1), 0, 1, 0, 0, 0)
	leveled(t, cords(0, 1, 0, 2, 0, 3, 0, 4), 0, 1, 1, 1, 1)
	leveled(t, cords(1, 0, 2, 0, 3, 0, 4, 0), 1, 0, 0, 0, 0)
	leveled(t, cords(0, 4, 0, 1, 1, 2, 2, 4), 0, 1, 2, 0, 3)
}

// TestL1LeastOfTheLongest: one above the other, in whatever order wires and rooms stand: the greatest level is MaxRooms - 1.
func TestL1LeastOfTheLongest(t *testing.T) {
	leveled(t, cords(0, 1, 1, 2, 2, 3, 3, 4), 0, 1, 2, 3, 4)
	leveled(t, cords(3, 4, 2, 3, 1, 2, 0, 1), 0, 1, 2, 3, 4)
	leveled(t, cords(4, 3, 3, 2, 2, 1, 1, 0), 4, 3, 2, 1, 0)
	leveled(t, cords(1, 0, 2, 1, 3, 2, 4, 3), 4, 3, 2, 1, 0)
	leveled(t, cords(1, 4, 2, 0, 4, 2, 3, 1), 4, 1, 3, 0, 2)
	// MaxWires of them: all that keep to one order, and two of these again.
	leveled(t, cords(3, 4, 2, 4, 2, 3, 1, 4, 1, 3, 1, 2, 0, 4, 0, 3, 0, 2, 0, 1, 0, 1, 3, 4), 0, 1, 2, 3, 4)
}

// TestL1LeastOfRings: all of a ring have one level, and raise what is behind it by one.
func TestL1LeastOfRings(t *testing.T) {
	leveled(t, around(api.MaxRooms), 0, 0, 0, 0, 0)
	leveled(t, around(api.MaxWires), 0, 0, 0, 0, 0)
	leveled(t, cords(0, 1, 1, 2, 2, 0, 2, 3), 0, 0, 0, 1, 0)
	leveled(t, cords(3, 0, 0, 1, 1, 2, 2, 0), 1, 1, 1, 0, 0)
	leveled(t, cords(3, 4, 0, 1, 1, 2, 2, 0, 2, 3), 0, 0, 0, 1, 2)
	// What raises its first room goes all around it, wire by wire, against their order.
	leveled(t, cords(2, 1, 3, 2, 4, 3, 1, 4, 0, 4), 0, 1, 1, 1, 1)
	leveled(t, cords(0, 3, 3, 0, 3, 1, 0, 4, 1, 4, 4, 1), 0, 1, 0, 0, 1)
}

// TestL1ApartNeitherWay: one that reaches the other one, by however many wires, is not apart from it, nor it from it.
func TestL1ApartNeitherWay(t *testing.T) {
	l := cords(2, 4, 0, 3, 3, 2, 1, 4)
	for _, not := range [][2]int{{0, 3}, {0, 2}, {0, 4}, {3, 4}, {1, 4}, {0, 0}, {1, 1}, {4, 4}} {
		parted(t, l, not[0], not[1], false, api.OK)
		parted(t, l, not[1], not[0], false, api.OK)
	}
	// That both reach a third one, or are reached by it, does not matter.
	for _, is := range [][2]int{{1, 0}, {1, 2}, {1, 3}} {
		parted(t, l, is[0], is[1], true, api.OK)
		parted(t, l, is[1], is[0], true, api.OK)
	}
	parted(t, cords(0, 1, 0, 2), 1, 2, true, api.OK)
	parted(t, around(api.MaxRooms), 1, 0, false, api.OK)
}

// TestL1NoSuchRoom: below 0, and from MaxRooms on, there is none; one of two that is none is enough.
func TestL1NoSuchRoom(t *testing.T) {
	for _, l := range [][]api.Wire{nil, cords(0, 1), around(api.MaxWires)} {
		for _, none := range []int{math.MinInt, -1, api.MaxRooms, api.MaxRooms + 1, math.MaxInt} {
			parted(t, l, none, 0, false, api.ErrRange)
			parted(t, l, 0, none, false, api.ErrRange)
			parted(t, l, api.MaxRooms-1, none, false, api.ErrRange)
			parted(t, l, none, none, false, api.ErrRange)
		}
	}
	parted(t, cords(0, 1), 0, api.MaxRooms-1, true, api.OK)
	parted(t, cords(0, 1), api.MaxRooms-1, 0, true, api.OK)
}

// TestL1HowManyWires: up to MaxWires; one more is full, ahead of what else is wrong.
func TestL1HowManyWires(t *testing.T) {
	for n := range api.MaxWires + 1 {
		if _, err := Rings(around(n)); err != nil {
			t.Errorf("Rings of %d: got %v", n, err)
		}
		if _, err := Least(around(n)); err != nil {
			t.Errorf("Least of %d: got %v", n, err)
		}
		parted(t, around(n), 1, 1, false, api.OK)
	}
	refused(t, around(api.MaxWires+1), api.ErrFull)
	refused(t, append(around(api.MaxWires), api.Wire{}), api.ErrFull)
	refused(t, append(cords(2, 2), around(api.MaxWires)...), api.ErrFull)
	refused(t, make([]api.Wire, 100_000), api.ErrFull)
}

// TestL1WrongWires: what is wrong with the first one that has a fault is told ahead of rooms that are none.
func TestL1WrongWires(t *testing.T) {
	faults := []struct {
		w    api.Wire
		want api.Errno
	}{
		{api.Wire{From: -1, To: 1, Kind: api.Sample, Deep: 1}, api.ErrRange},
		{api.Wire{From: api.MaxRooms, To: 1, Kind: api.Sample, Deep: 1}, api.ErrRange},
		{api.Wire{From: 1, To: -1, Kind: api.Sample, Deep: 1}, api.ErrRange},
		{api.Wire{From: 1, To: api.MaxRooms, Kind: api.Sample, Deep: 1}, api.ErrRange},
		{api.Wire{From: math.MinInt, To: math.MaxInt, Kind: api.Sample, Deep: 1}, api.ErrRange},
		{api.Wire{From: 0, To: 1, Kind: 0, Deep: 1}, api.ErrRange},
		{api.Wire{From: 0, To: 1, Kind: 3, Deep: 1}, api.ErrRange},
		{api.Wire{From: 0, To: 1, Kind: api.Sample, Deep: 2}, api.ErrRange},
		{api.Wire{From: 0, To: 1, Kind: api.Queue, Deep: 0}, api.ErrRange},
		{api.Wire{From: 0, To: 1, Kind: api.Queue, Deep: api.MaxDeep + 1}, api.ErrRange},
		{api.Wire{From: 2, To: 2, Kind: api.Queue, Deep: 1}, api.ErrShape},
		{api.Wire{From: 2, To: 2, Kind: api.Queue, Deep: 0}, api.ErrRange},
	}
	for _, one := range faults {
		for _, other := range faults {
			for i := range api.MaxWires {
				l := around(api.MaxWires)
				l[api.MaxWires-1] = other.w
				l[i] = one.w
				refused(t, l, one.want)
			}
		}
	}
}

// walked tells which rooms are come to from one, wire by wire.
func walked(l []api.Wire, from int, seen []int) []int {
	if slices.Contains(seen, from) {
		return seen
	}
	seen = append(seen, from)
	for _, w := range l {
		if w.From == from {
			seen = walked(l, w.To, seen)
		}
	}
	return seen
}

// reach by a walk, from each room to each.
func reach(l []api.Wire) (out [api.MaxRooms][api.MaxRooms]bool) {
	for a := range out {
		for _, b := range walked(l, a, nil) {
			out[a][b] = true
		}
	}
	return out
}

// grouped puts each room to the first ring that has one of its own in it.
func grouped(l []api.Wire) (out [][]int) {
	ways := reach(l)
	for room := range api.MaxRooms {
		i := slices.IndexFunc(out, func(g []int) bool { return ways[g[0]][room] && ways[room][g[0]] })
		if i < 0 {
			out = append(out, []int{room})
		} else {
			out[i] = append(out[i], room)
		}
	}
	return out
}

// counted goes over all levels that rooms may have, each below some number.
func counted(below int) func(func([]int) bool) {
	return func(yield func([]int) bool) {
		level := make([]int, api.MaxRooms)
		for yield(level) {
			i := 0
			for i < len(level) && level[i] == below-1 {
				level[i] = 0
				i++
			}
			if i == len(level) {
				return
			}
			level[i]++
		}
	}
}

// lowest of all levels that may be, room by room; and whether they may be themselves.
func lowest(l []api.Wire, below int) ([]int, bool) {
	ways := reach(l)
	fits := func(level []int) bool {
		return !slices.ContainsFunc(l, func(w api.Wire) bool {
			one := ways[w.To][w.From]
			return level[w.From] > level[w.To] || !one && level[w.From] == level[w.To]
		})
	}
	out := slices.Repeat([]int{below}, api.MaxRooms)
	for level := range counted(below) {
		if fits(level) {
			for room, n := range level {
				out[room] = min(out[room], n)
			}
		}
	}
	return out, fits(out)
}

// same asks all three of all rooms, against walks and a search.
func same(t *testing.T, l []api.Wire, below int) {
	t.Helper()
	ways := reach(l)
	rung(t, l, grouped(l)...)
	want, fits := lowest(l, below)
	if !fits {
		t.Errorf("of %v the search has no least levels: %v", l, want)
	}
	leveled(t, l, want...)
	if err := flow.Levels(l, want); err != nil {
		t.Errorf("flow.Levels(%v, %v): got %v", l, want, err)
	}
	for a := range api.MaxRooms {
		for b := range api.MaxRooms {
			parted(t, l, a, b, !ways[a][b] && !ways[b][a], api.OK)
		}
	}
}

// drawn is a number below n, from a state that goes on: a rule, so that a fault is found again.
func drawn(state *uint64, n int) int {
	*state = *state*6364136223846793005 + 1442695040888963407
	return int(*state>>33) % n
}

// TestL1DrawnWires: wires as they come, up to MaxWires, of both kinds, some of them twice.
func TestL1DrawnWires(t *testing.T) {
	state := uint64(13)
	for range 4000 {
		var l []api.Wire
		for range drawn(&state, api.MaxWires+1) {
			from := drawn(&state, api.MaxRooms)
			to := (from + 1 + drawn(&state, api.MaxRooms-1)) % api.MaxRooms
			kind := 1 + drawn(&state, 2)
			deep := 1 + drawn(&state, api.MaxDeep)*(kind-1)
			l = append(l, api.Wire{From: from, To: to, Kind: kind, Deep: deep})
		}
		same(t, l, api.MaxRooms)
	}
}

// TestL1AllWiresOfThreeRooms: whichever of the wires between three rooms there are, forth and back.
func TestL1AllWiresOfThreeRooms(t *testing.T) {
	all := cords(1, 2, 1, 4, 2, 1, 2, 4, 4, 1, 4, 2)
	for set := range 1 << len(all) {
		var l []api.Wire
		for i, w := range all {
			if set>>i&1 == 1 {
				l = append(l, w)
			}
		}
		same(t, l, 3)
		slices.Reverse(l)
		same(t, l, 3)
	}
}

// TestP2HandedIn: nothing is written into, in its length or behind it, nor does what lies behind matter.
func TestP2HandedIn(t *testing.T) {
	all := append(cords(0, 1, 1, 2, 2, 0), api.Wire{From: -9})
	kept := slices.Clone(all)
	rung(t, all[:2], []int{0}, []int{1}, []int{2}, []int{3}, []int{4})
	rung(t, all[:3], []int{0, 1, 2}, []int{3}, []int{4})
	leveled(t, all[:2], 0, 1, 2, 0, 0)
	leveled(t, all[:3], 0, 0, 0, 0, 0)
	parted(t, all[:1], 1, 2, true, api.OK)
	parted(t, all[:2], 1, 2, false, api.OK)
	if !slices.Equal(all, kept) {
		t.Errorf("handed in and changed: %v, were %v", all, kept)
	}
}

// TestP2Answers: an answer is the caller's, its lists share nothing, and it does not hang on what was asked before.
func TestP2Answers(t *testing.T) {
	l := cords(0, 3, 3, 0, 1, 4, 4, 1, 0, 1)
	rings, _ := Rings(l)
	for i, ring := range rings {
		others := slices.Clone(rings[i+1:])
		for j := range others {
			others[j] = slices.Clone(others[j])
		}
		for j := range ring[:cap(ring)] {
			ring[:cap(ring)][j] = -1
		}
		if !slices.EqualFunc(rings[i+1:], others, slices.Equal) {
			t.Errorf("written into ring %d, others are %v, were %v", i, rings[i+1:], others)
		}
	}
	least, _ := Least(l)
	clear(least)
	rung(t, l, []int{0, 3}, []int{1, 4}, []int{2})
	leveled(t, l, 0, 1, 0, 0, 1)
	l[4] = cords(2, 1)[0]
	leveled(t, l, 0, 1, 0, 0, 1)
	parted(t, l, 0, 1, true, api.OK)
}
