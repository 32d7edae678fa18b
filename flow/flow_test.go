package flow

import (
	"math"
	"math/bits"
	"slices"
	"testing"

	"framekeep/api"
	"framekeep/plain"
)

// cords are wires that may be, from room to room by two numbers each.
func cords(rooms ...int) []api.Wire {
	var out []api.Wire
	for i := 0; i+1 < len(rooms); i += 2 {
		out = append(out, api.Wire{From: rooms[i], To: rooms[i+1], Kind: api.Queue, Deep: 2})
	}
	return out
}

// around is so many wires that may be.
func around(n int) []api.Wire {
	var out []api.Wire
	for i := range n {
		out = append(out, cords(i%api.MaxRooms, (i+1)%api.MaxRooms)...)
	}
	return out
}

// checked asks for all that Check answers.
func checked(t *testing.T, l []api.Wire, at int, want api.Errno) {
	t.Helper()
	got, err := Check(l)
	if got != at || plain.Told(err) != want {
		t.Errorf("Check(%v): got %d, %v, want %d, %v", l, got, plain.Told(err), at, want)
	}
}

// reaches asks for all that Reach answers.
func reaches(t *testing.T, l []api.Wire, a, b int, is bool, want api.Errno) {
	t.Helper()
	got, err := Reach(l, a, b)
	if got != is || plain.Told(err) != want {
		t.Errorf("Reach(%v, %d, %d): got %v, %v, want %v, %v", l, a, b, got, plain.Told(err), is, want)
	}
}

// ahead asks for all that Ahead answers.
func ahead(t *testing.T, l []api.Wire, b int, want api.Errno, rooms ...int) {
	t.Helper()
	got, err := Ahead(l, b)
	if !slices.Equal(got, rooms) || plain.Told(err) != want {
		t.Errorf("Ahead(%v, %d): got %v, %v, want %v, %v", l, b, got, plain.Told(err), rooms, want)
	}
}

// leveled asks for what Levels answers.
func leveled(t *testing.T, l []api.Wire, level []int, want api.Errno) {
	t.Helper()
	if err := Levels(l, level); plain.Told(err) != want {
		t.Errorf("Levels(%v, %v): got %v, want %v", l, level, plain.Told(err), want)
	}
}

// TestF1CheckOfNone: no wires, or an empty list of them, may be.
func TestF1CheckOfNone(t *testing.T) {
	checked(t, nil, 0, api.OK)
	checked(t, []api.Wire{}, 0, api.OK)
}

// TestF1CheckOfHowMany: up to MaxWires; one more is full, ahead of what else is wrong, and told at 0.
func TestF1CheckOfHowMany(t *testing.T) {
	for n := range api.MaxWires + 1 {
		checked(t, around(n), 0, api.OK)
	}
	for n := api.MaxWires + 1; n < api.MaxWires+4; n++ {
		checked(t, around(n), 0, api.ErrFull)
	}
	checked(t, append(around(api.MaxWires), api.Wire{}), 0, api.ErrFull)
	checked(t, append(make([]api.Wire, 1), around(api.MaxWires)...), 0, api.ErrFull)
}

// TestF1CheckOfTheFirst: a fault is told where the first one stands, as what is wrong with that one.
func TestF1CheckOfTheFirst(t *testing.T) {
	faults := []struct {
		w    api.Wire
		want api.Errno
	}{
		{api.Wire{From: -1, To: 1, Kind: api.Sample, Deep: 1}, api.ErrRange},
		{api.Wire{From: 1, To: api.MaxRooms, Kind: api.Sample, Deep: 1}, api.ErrRange},
		{api.Wire{From: 0, To: 1, Kind: 0, Deep: 1}, api.ErrRange},
		{api.Wire{From: 0, To: 1, Kind: 3, Deep: 1}, api.ErrRange},
		{api.Wire{From: 0, To: 1, Kind: api.Sample, Deep: 2}, api.ErrRange},
		{api.Wire{From: 0, To: 1, Kind: api.Queue, Deep: api.MaxDeep + 1}, api.ErrRange},
		{api.Wire{From: 2, To: 2, Kind: api.Queue, Deep: 1}, api.ErrShape},
		{api.Wire{From: 2, To: 2, Kind: api.Queue, Deep: 0}, api.ErrRange},
	}
	for _, one := range faults {
		for _, other := range faults {
			for i := range api.MaxWires {
				l := around(api.MaxWires)
				l[api.MaxWires-1] = other.w
				l[i] = one.w
				checked(t, l, i, one.want)
			}
		}
	}
}

// TestF1CheckOfTheSame: two wires between the same rooms may be, and one back.
func TestF1CheckOfTheSame(t *testing.T) {
	checked(t, cords(0, 1, 0, 1, 1, 0), 0, api.OK)
}

// TestF1ReachByOneAndMore: by one wire, by several in whatever order they stand, not back, and to itself by none.
func TestF1ReachByOneAndMore(t *testing.T) {
	l := cords(2, 4, 0, 3, 3, 2)
	reaches(t, l, 0, 3, true, api.OK)
	reaches(t, l, 0, 2, true, api.OK)
	reaches(t, l, 0, 4, true, api.OK)
	reaches(t, l, 4, 0, false, api.OK)
	reaches(t, l, 2, 3, false, api.OK)
	reaches(t, l, 0, 1, false, api.OK)
	reaches(t, l, 1, 0, false, api.OK)
	for room := range api.MaxRooms {
		reaches(t, l, room, room, true, api.OK)
		reaches(t, nil, room, room, true, api.OK)
	}
}

// TestF1AheadOfARoom: all that reach it, itself with them, rising.
func TestF1AheadOfARoom(t *testing.T) {
	l := cords(2, 4, 3, 2, 0, 3)
	ahead(t, l, 4, api.OK, 0, 2, 3, 4)
	ahead(t, l, 2, api.OK, 0, 2, 3)
	ahead(t, l, 3, api.OK, 0, 3)
	ahead(t, l, 0, api.OK, 0)
	ahead(t, l, 1, api.OK, 1)
	ahead(t, nil, 4, api.OK, 4)
	ahead(t, around(api.MaxRooms), 2, api.OK, 0, 1, 2, 3, 4)
}

// walked tells which rooms are come to from one, wire by wire.
func walked(l []api.Wire, from int, seen []int) []int {
	if slices.Contains(seen, from) {
		return seen
	}
	seen = append(seen, from)
	for _, w := range l {
		if w.From == from {
			seen = walked(l, w.To, seen)
		}
	}
	return seen
}

// same asks Reach and Ahead of all rooms, against a walk.
func same(t *testing.T, l []api.Wire) {
	t.Helper()
	var before [api.MaxRooms][]int
	for a := range api.MaxRooms {
		to := walked(l, a, nil)
		for b := range api.MaxRooms {
			is := slices.Contains(to, b)
			reaches(t, l, a, b, is, api.OK)
			if is {
				before[b] = append(before[b], a)
			}
		}
	}
	for b, rooms := range before {
		ahead(t, l, b, api.OK, rooms...)
	}
}

// pairs of different rooms, below some room.
func pairs(rooms int) []api.Wire {
	var out []api.Wire
	for a := range rooms {
		for b := range rooms {
			if a != b {
				out = append(out, cords(a, b)...)
			}
		}
	}
	return out
}

// chosen of wires: those whose bit is set.
func chosen(l []api.Wire, set uint) []api.Wire {
	var out []api.Wire
	for i, w := range l {
		if set>>i&1 == 1 {
			out = append(out, w)
		}
	}
	return out
}

// TestF1AllWaysOfFourRooms: whichever of the wires between four rooms there are.
func TestF1AllWaysOfFourRooms(t *testing.T) {
	l := pairs(4)
	for set := range uint(1) << len(l) {
		same(t, chosen(l, set))
	}
}

// TestF1WaysOfFiveRooms: many of the choices of up to MaxWires of the wires between five rooms, forth and back.
func TestF1WaysOfFiveRooms(t *testing.T) {
	l := pairs(api.MaxRooms)
	for set := uint(0); set < 1<<len(l); set += 61 {
		if bits.OnesCount(set) > api.MaxWires {
			continue
		}
		some := chosen(l, set)
		same(t, some)
		slices.Reverse(some)
		same(t, some)
	}
}

// TestF1NoSuchRoom: below 0, and from MaxRooms on, there is none; one of two that is none is enough.
func TestF1NoSuchRoom(t *testing.T) {
	l := around(api.MaxRooms)
	for _, none := range []int{math.MinInt, -1, api.MaxRooms, api.MaxRooms + 1, math.MaxInt} {
		reaches(t, l, none, 0, false, api.ErrRange)
		reaches(t, l, 0, none, false, api.ErrRange)
		reaches(t, l, none, none, false, api.ErrRange)
		reaches(t, nil, none, none, false, api.ErrRange)
		ahead(t, l, none, api.ErrRange)
		ahead(t, nil, none, api.ErrRange)
	}
	reaches(t, l, 0, api.MaxRooms-1, true, api.OK)
	reaches(t, l, api.MaxRooms-1, 0, true, api.OK)
}

// TestF1WrongWiresAhead: what Check tells is told ahead of all else.
func TestF1WrongWiresAhead(t *testing.T) {
	full, shape, wrong := around(api.MaxWires+1), cords(0, 1, 3, 3), cords(0, 1, 1, 9, 2, 2)
	for _, room := range []int{0, 1, -1, api.MaxRooms} {
		reaches(t, full, room, room, false, api.ErrFull)
		reaches(t, shape, room, room, false, api.ErrShape)
		reaches(t, wrong, room, room, false, api.ErrRange)
		ahead(t, full, room, api.ErrFull)
		ahead(t, shape, room, api.ErrShape)
		ahead(t, wrong, room, api.ErrRange)
	}
	for _, level := range [][]int{nil, {0, 0, 0, 0, 0}, {5, 4, 3, 2, 1}, {0, 0, 0, 0, 0, 0}} {
		leveled(t, full, level, api.ErrFull)
		leveled(t, shape, level, api.ErrShape)
		leveled(t, wrong, level, api.ErrRange)
	}
}

// TestF1LevelsOfAllRooms: as many as there are rooms, neither more nor fewer, ahead of what leads down.
func TestF1LevelsOfAllRooms(t *testing.T) {
	for _, l := range [][]api.Wire{nil, cords(0, 1)} {
		leveled(t, l, nil, api.ErrShape)
		leveled(t, l, []int{}, api.ErrShape)
		leveled(t, l, []int{1, 0, 0, 0}, api.ErrShape)
		leveled(t, l, []int{1, 0, 0, 0, 0, 0}, api.ErrShape)
		leveled(t, l, []int{0, 1, 0, 0, 0}, api.OK)
	}
	leveled(t, nil, []int{1, 0, 0, 0, 0}, api.OK)
	leveled(t, cords(0, 1), []int{1, 0, 0, 0, 0}, api.ErrDown)
}

// TestF1LevelsUpAndDown: a wire may lead up, or stay; the last one that leads down is found too.
func TestF1LevelsUpAndDown(t *testing.T) {
	leveled(t, cords(0, 1, 1, 2, 2, 0), []int{7, 7, 7, 0, 9}, api.OK)
	leveled(t, cords(3, 0, 0, 4), []int{7, 7, 7, 0, 9}, api.OK)
	leveled(t, cords(0, 1, 3, 0, 4, 0), []int{7, 7, 7, 0, 9}, api.ErrDown)
	leveled(t, cords(0, 3, 3, 4), []int{7, 7, 7, 0, 9}, api.ErrDown)
	// By wires alone, not by ways: who is not wired may be lower.
	leveled(t, cords(0, 1), []int{5, 6, 4, 3, 2}, api.OK)
}

// TestF1LevelsOfAnyNumber: a level is whatever number, the least and the greatest with them.
func TestF1LevelsOfAnyNumber(t *testing.T) {
	numbers := []int{math.MinInt, math.MinInt + 1, -1, 0, 1, math.MaxInt - 1, math.MaxInt}
	for _, from := range numbers {
		for _, to := range numbers {
			want := api.OK
			if from > to {
				want = api.ErrDown
			}
			leveled(t, cords(4, 2), []int{0, 0, to, 0, from}, want)
		}
	}
}

// TestP2HandedIn: nothing is written into, in its length or behind it, nor does what lies behind matter.
func TestP2HandedIn(t *testing.T) {
	all := append(cords(0, 1, 1, 2), api.Wire{From: 2, To: 3, Kind: api.Queue, Deep: 1}, api.Wire{From: -9})
	levels := []int{0, 1, 2, 3, 4, 5, 6}
	wires, kept := slices.Clone(all), slices.Clone(levels)
	checked(t, all[:2], 0, api.OK)
	reaches(t, all[:2], 0, 3, false, api.OK)
	ahead(t, all[:2], 3, api.OK, 3)
	leveled(t, all[:2], levels[:api.MaxRooms], api.OK)
	if !slices.Equal(all, wires) || !slices.Equal(levels, kept) {
		t.Errorf("handed in and changed: %v, %v", all, levels)
	}
}

// TestP2Answers: an answer is the caller's, and does not hang on what was asked before.
func TestP2Answers(t *testing.T) {
	l := around(api.MaxRooms)
	first, _ := Ahead(l, 0)
	for i := range first {
		first[i] = -1
	}
	ahead(t, l, 0, api.OK, 0, 1, 2, 3, 4)
	ahead(t, nil, 0, api.OK, 0)
	l[0] = api.Wire{From: 3, To: 0, Kind: api.Sample, Deep: 1}
	ahead(t, l, 0, api.OK, 0, 1, 2, 3, 4)
	ahead(t, l, 1, api.OK, 1)
}
