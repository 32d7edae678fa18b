package purge

import (
	"math"
	"slices"
	"testing"

	"framekeep/api"
	"framekeep/plain"
	"framekeep/plan"
)

// parsed is the plan of a text.
func parsed(t *testing.T, text string) api.Plan {
	t.Helper()
	p, err := plan.Parse(text)
	if err != nil {
		t.Fatalf("Parse(%q): got %v", text, err)
	}
	return p
}

func samePlan(p, q api.Plan) bool {
	return p.Ticks == q.Ticks && slices.Equal(p.Spans, q.Spans) && slices.Equal(p.Wires, q.Wires) && slices.EqualFunc(p.Code, q.Code, slices.Equal)
}

// copied is a plan with memory of its own.
func copied(p api.Plan) api.Plan {
	q := api.Plan{Ticks: p.Ticks, Spans: slices.Clone(p.Spans), Wires: slices.Clone(p.Wires)}
	for _, l := range p.Code {
		q.Code = append(q.Code, slices.Clone(l))
	}
	return q
}

// rests is code of n ops that are all right.
func rests(n int) []api.Op { return slices.Repeat([]api.Op{{What: api.Rest}}, n) }

// still is a plan in which these rooms rest, and all else is as it was.
func still(p api.Plan, rooms ...int) api.Plan {
	q := copied(p)
	for _, r := range rooms {
		q.Code[r] = rests(1)
	}
	return q
}

// purged is what Purge answers where nothing is wrong.
func purged(t *testing.T, p api.Plan, room int) api.Plan {
	t.Helper()
	q, err := Purge(p, room)
	if err != nil {
		t.Fatalf("Purge(%v, %d): got %v", p, room, err)
	}
	return q
}

// leaves asks that Purge lets these rooms rest, and changes nothing else.
func leaves(t *testing.T, p api.Plan, room int, idle ...int) {
	t.Helper()
	want := still(p, idle...)
	got, err := Purge(p, room)
	if !samePlan(got, want) || err != nil {
		t.Errorf("Purge(%v, %d): got %v, %v, want %v", p, room, got, err, want)
	}
}

// refuses asks for an error of Purge, and that nothing comes with it.
func refuses(t *testing.T, p api.Plan, room int, want api.Errno) {
	t.Helper()
	got, err := Purge(p, room)
	if got.Code != nil || got.Ticks != 0 || got.Spans != nil || got.Wires != nil || plain.Told(err) != want {
		t.Errorf("Purge(%v, %d): got %v, %v, want %v", p, room, got, plain.Told(err), want)
	}
}

// same asks for what Same answers where nothing is wrong.
func same(t *testing.T, p, q api.Plan, n, room, want int) {
	t.Helper()
	got, err := Same(p, q, n, room)
	if got != want || err != nil {
		t.Errorf("Same(%v, %v, %d, %d): got %d, %v, want %d", p, q, n, room, got, err, want)
	}
}

// differs asks for the first tick ahead of which a room's state is another one, whichever plan comes first: of fewer ticks it is the same all along.
func differs(t *testing.T, p, q api.Plan, room, tick int) {
	t.Helper()
	for _, n := range []int{tick, min(tick+1, 2000), min(tick+40, 2000), 2000} {
		same(t, p, q, n, room, tick)
		same(t, q, p, n, room, tick)
	}
	same(t, p, q, tick-1, room, -1)
	same(t, q, p, tick-1, room, -1)
}

// parts asks for an error of Same, and that nothing comes with it.
func parts(t *testing.T, p, q api.Plan, n, room int, want api.Errno) {
	t.Helper()
	got, err := Same(p, q, n, room)
	if got != 0 || plain.Told(err) != want {
		t.Errorf("Same(%v, %v, %d, %d): got %d, %v, want %v", p, q, n, room, got, plain.Told(err), want)
	}
}

// least is a plan of which nothing could be less.
func least() api.Plan { return api.Plan{Code: [][]api.Op{rests(1)}, Ticks: 1} }

// great is a plan with as many rooms, ops, ticks, spans and wires as there may be.
func great() api.Plan {
	p := api.Plan{Ticks: 40}
	for i := range 12 {
		p.Spans = append(p.Spans, api.Span{From: 3 * i, To: 3*i + 3, Room: i % 5})
		p.Wires = append(p.Wires, api.Wire{From: i % 5, To: (i + 1) % 5, Kind: api.Queue, Deep: 1 + i%6})
	}
	for range 5 {
		p.Code = append(p.Code, rests(20))
	}
	return p
}

// wrong is plans that Check refuses, by what it tells.
func wrong() map[api.Errno]api.Plan {
	shape, full, clash := great(), great(), great()
	shape.Code[0][0] = api.Op{What: api.Send, B: 1}
	full.Code[4] = rests(21)
	clash.Spans[11] = api.Span{From: 2, To: 3}
	ranged := great()
	ranged.Ticks = 41
	return map[api.Errno]api.Plan{
		api.ErrNone: {}, api.ErrShape: shape, api.ErrFull: full, api.ErrClash: clash, api.ErrRange: ranged,
	}
}

// five is a plan of five rooms: room 0 tells 1, 1 tells 2 and 2 tells 1, 2 tells 4; room 3 tells nobody, and nobody tells it.
func five(t *testing.T) api.Plan {
	t.Helper()
	return parsed(t, "frame 9\nspan 0 2 0\nspan 2 4 1\nspan 4 6 2\nspan 6 7 3\nspan 7 9 4\n"+
		"wire 0 1 2 3\nwire 1 2 1 1\nwire 2 1 2 1\nwire 2 4 2 6\n"+
		"room\nset 0 7\nsend 0 0\n"+
		"room\ntake 1 0\nsend 1 1\ntake 2 2\n"+
		"room\ntake 3 1\nadd 4 3\nsend 4 2\nsend 4 3\n"+
		"room\nset 5 999\nfail\n"+
		"room\ntake 0 3\n")
}

// TestP1Purge: by hand, of each room: by one wire, by way of others, around, and not against a wire.
func TestP1Purge(t *testing.T) {
	p := five(t)
	leaves(t, p, 0, 1, 2, 3, 4)
	leaves(t, p, 1, 3, 4)
	leaves(t, p, 2, 3, 4)
	leaves(t, p, 3, 0, 1, 2, 4)
	leaves(t, p, 4, 3)
}

// TestP1PurgeRests: the code of who cannot tell is one op, and all of that op is told.
func TestP1PurgeRests(t *testing.T) {
	q := purged(t, five(t), 0)
	for room := 1; room < 5; room++ {
		if !slices.Equal(q.Code[room], []api.Op{{What: 10, A: 0, B: 0}}) {
			t.Errorf("room %d: got %v", room, q.Code[room])
		}
	}
	if text, err := plan.Print(q); err != nil || text != "frame 9\nspan 0 2 0\nspan 2 4 1\nspan 4 6 2\nspan 6 7 3\nspan 7 9 4\n"+
		"wire 0 1 2 3\nwire 1 2 1 1\nwire 2 1 2 1\nwire 2 4 2 6\n"+
		"room\nset 0 7\nsend 0 0\nroom\nrest\nroom\nrest\nroom\nrest\nroom\nrest\n" {
		t.Errorf("purged: got %q, %v", text, err)
	}
}

// TestP1PurgeByWiresAlone: it is the wire that reaches, whether or not anything is ever sent on it, or its room has a turn.
func TestP1PurgeByWiresAlone(t *testing.T) {
	p := parsed(t, "frame 1\nwire 2 0 1 1\nroom\nset 0 1\nroom\nset 1 1\nroom\nset 2 1\n")
	leaves(t, p, 0, 1)
	leaves(t, p, 1, 0, 2)
	leaves(t, p, 2, 0, 1)
	p.Wires = nil
	leaves(t, p, 0, 1, 2)
	leaves(t, p, 2, 0, 1)
}

// TestP1PurgeEdges: one room alone, as many as may be around one ring, and the longest way that there is, up and down.
func TestP1PurgeEdges(t *testing.T) {
	leaves(t, least(), 0)
	ring, up, down := great(), great(), great()
	up.Wires, down.Wires = nil, nil
	for a := range 4 {
		up.Wires = append(up.Wires, api.Wire{From: a, To: a + 1, Kind: api.Sample, Deep: 1})
		down.Wires = append(down.Wires, api.Wire{From: a + 1, To: a, Kind: api.Sample, Deep: 1})
	}
	rooms := []int{0, 1, 2, 3, 4}
	for room := range 5 {
		leaves(t, ring, room)
		leaves(t, up, room, rooms[room+1:]...)
		leaves(t, down, room, rooms[:room]...)
	}
}

func TestP1PurgeNoSuchRoom(t *testing.T) {
	for _, room := range []int{math.MinInt, -1, 5, 6, math.MaxInt} {
		refuses(t, five(t), room, api.ErrRange)
		refuses(t, great(), room, api.ErrRange)
	}
	// A room that may be, but that the plan has not.
	for room := 1; room <= 5; room++ {
		refuses(t, least(), room, api.ErrRange)
	}
}

func TestP1PurgeChecksFirst(t *testing.T) {
	for want, p := range wrong() {
		for _, room := range []int{math.MinInt, -1, 0, 4, 5, math.MaxInt} {
			refuses(t, p, room, want)
		}
	}
	many := great()
	many.Code = append(many.Code, rests(1))
	refuses(t, many, 5, api.ErrFull)
}

// scribble over all memory of a plan that its lists have.
func scribble(p api.Plan) {
	for i, l := range p.Code {
		l = l[:cap(l)]
		for j := range l {
			l[j] = api.Op{What: -1, A: -1, B: -1}
		}
		p.Code[i] = nil
	}
	spans, wires := p.Spans[:cap(p.Spans)], p.Wires[:cap(p.Wires)]
	for i := range spans {
		spans[i] = api.Span{From: -1}
	}
	for i := range wires {
		wires[i] = api.Wire{From: -1}
	}
}

// TestP2PurgeIsTheCallers: the plan is not written into, and what comes out shares no memory with it, nor with another answer.
func TestP2PurgeIsTheCallers(t *testing.T) {
	for room := range 5 {
		p := five(t)
		kept := copied(p)
		first, second := purged(t, p, room), purged(t, p, room)
		want := copied(second)
		scribble(first)
		if !samePlan(p, kept) {
			t.Fatalf("room %d: what came out is of the plan's memory: %v", room, p)
		}
		if !samePlan(second, want) || !samePlan(purged(t, p, room), want) {
			t.Errorf("room %d: two answers share memory: %v", room, second)
		}
		scribble(p)
		if !samePlan(second, want) {
			t.Errorf("room %d: what came out hangs on the plan's memory: %v", room, second)
		}
	}
}

// TestP2PurgeListsAreApart: no two codes of one answer share memory.
func TestP2PurgeListsAreApart(t *testing.T) {
	q := purged(t, five(t), 0)
	want := copied(q)
	for room := range q.Code {
		for i := range q.Code[room] {
			q.Code[room][i].B++
		}
		for other := range q.Code {
			if other > room && !slices.Equal(q.Code[other], want.Code[other]) {
				t.Errorf("rooms %d and %d share memory", room, other)
			}
		}
	}
}

// TestP1Same: by hand; where a room goes on, its cells and whether it has failed are all held against each other.
func TestP1Same(t *testing.T) {
	p := parsed(t, "frame 4\nspan 1 3 0\nspan 3 4 1\nwire 1 0 2 1\nroom\nset 0 1\nset 1 2\nrest\nset 5 3\nroom\nset 2 5\nsend 2 0\n")
	change := func(room, op int, o api.Op) api.Plan {
		q := copied(p)
		q.Code[room][op] = o
		return q
	}
	// Room 0 does its ops at ticks 1, 2, 5 and 6, and begins again at 9.
	differs(t, p, change(0, 0, api.Op{What: api.Set, A: 0, B: 2}), 0, 2)
	differs(t, p, change(0, 1, api.Op{What: api.Rest}), 0, 3)
	differs(t, p, change(0, 2, api.Op{What: api.Jump, B: 0}), 0, 6)
	differs(t, p, change(0, 2, api.Op{What: api.Fail}), 0, 6)
	differs(t, p, change(0, 3, api.Op{What: api.Set, A: 5, B: 4}), 0, 7)
	// Room 1 sends at tick 7, and room 0 takes at 5 nothing, and at 9 what was sent: it waits, and goes on another op from tick 6 on.
	differs(t, p, change(0, 2, api.Op{What: api.Take, A: 3, B: 0}), 0, 6)
	took := change(0, 2, api.Op{What: api.Take, A: 3, B: 0})
	other := copied(took)
	other.Code[1][0].B = 6
	differs(t, took, other, 0, 10)
	differs(t, took, other, 1, 4)
	// What another room does, and nobody takes, does not matter.
	same(t, p, change(1, 0, api.Op{What: api.Fail}), 2000, 0, -1)
	same(t, p, p, 2000, 0, -1)
	same(t, p, p, 2000, 1, -1)
}

// TestP1SameOneThing: states of which one thing alone is another one, each cell, where it goes on, and whether it has failed.
func TestP1SameOneThing(t *testing.T) {
	idle := least()
	idle.Spans = []api.Span{{From: 0, To: 1, Room: 0}}
	for cell := range 6 {
		set := copied(idle)
		set.Code[0] = []api.Op{{What: api.Set, A: cell, B: 1}}
		differs(t, idle, set, 0, 1)
	}
	two, failed := copied(idle), copied(idle)
	two.Code[0] = rests(2)
	differs(t, idle, two, 0, 1)
	failed.Code[0] = []api.Op{{What: api.Fail}}
	differs(t, idle, failed, 0, 1)
}

// TestP1SameIsTheFirst: of states that are the same again, and at the last tick too, the first one that is not is told.
func TestP1SameIsTheFirst(t *testing.T) {
	p := parsed(t, "frame 2\nspan 0 2 0\nroom\nrest\nset 0 0\n")
	q := copied(p)
	q.Code[0][0] = api.Op{What: api.Set, A: 0, B: 1}
	for n := 1; n <= 12; n++ {
		same(t, p, q, n, 0, 1)
	}
}

// TestP1SameEdges: no tick at all, one, as many as may be, and a state that is another one behind the last of them alone.
func TestP1SameEdges(t *testing.T) {
	p := parsed(t, "frame 1\nspan 0 1 0\nroom\nset 0 1\n")
	q := parsed(t, "frame 1\nspan 0 1 0\nroom\nset 0 2\n")
	same(t, p, q, 0, 0, -1)
	for _, n := range []int{1, 1999, 2000} {
		same(t, p, q, n, 0, 1)
		same(t, p, p, n, 0, -1)
	}
	same(t, great(), least(), 0, 0, -1)
	same(t, great(), great(), 2000, 4, -1)
	differs(t, late(t, "1"), late(t, "2"), 0, 2000)
}

// late is a plan whose room 0 takes at tick 1999, and not ahead of it, a number that room 1 has sent. It has one tick a frame, of which that is the 50th one: 3 to begin, 15 rounds of 3, and one to leave them.
func late(t *testing.T, number string) api.Plan {
	t.Helper()
	return parsed(t, "frame 40\nspan 39 40 0\nspan 0 1 1\nwire 1 0 1 1\n"+
		"room\nset 0 15\nset 1 1\nset 2 0\nzero 0 6\nsub 0 1\nzero 2 3\ntake 5 0\n"+
		"room\nset 3 "+number+"\nsend 3 0\n")
}

// TestP1SameOfUnlikePlans: of another frame, of other rooms and wires: the room's states alone are asked.
func TestP1SameOfUnlikePlans(t *testing.T) {
	p := parsed(t, "frame 2\nspan 0 1 0\nroom\nset 0 5\nset 0 6\n")
	q := parsed(t, "frame 4\nspan 0 1 0\nspan 2 3 0\nspan 1 2 2\nwire 1 2 2 6\nroom\nset 0 5\nset 0 6\nroom\nfail\nroom\nfail\n")
	same(t, p, q, 2000, 0, -1)
	same(t, q, p, 2000, 0, -1)
	q.Ticks = 5
	differs(t, p, q, 0, 5)
}

func TestP1SameOfWrongNumbers(t *testing.T) {
	p := five(t)
	for _, n := range []int{math.MinInt, -1, 2001, math.MaxInt} {
		for _, room := range []int{-1, 0, 4, 5} {
			parts(t, p, p, n, room, api.ErrRange)
		}
	}
	for _, room := range []int{math.MinInt, -1, 5, 6, math.MaxInt} {
		for _, n := range []int{-1, 0, 1, 2000, 2001} {
			parts(t, p, p, n, room, api.ErrRange)
		}
	}
	// A room that one of them has alone.
	for room := 1; room < 5; room++ {
		parts(t, p, least(), 10, room, api.ErrRange)
		parts(t, least(), p, 10, room, api.ErrRange)
		parts(t, least(), p, 0, room, api.ErrRange)
	}
	same(t, least(), still(p, 0), 0, 0, -1)
}

// TestP1SameChecksFirst: what is wrong with the first plan, then with the second one, ahead of any number.
func TestP1SameChecksFirst(t *testing.T) {
	for want, p := range wrong() {
		for _, room := range []int{math.MinInt, -1, 0, 4, 5, math.MaxInt} {
			for _, n := range []int{math.MinInt, -1, 0, 2000, 2001, math.MaxInt} {
				parts(t, p, great(), n, room, want)
				parts(t, great(), p, n, room, want)
				parts(t, least(), p, n, room, want)
				for _, q := range wrong() {
					parts(t, p, q, n, room, want)
				}
			}
		}
	}
}

func TestP2SameWritesNothing(t *testing.T) {
	p := five(t)
	q := still(p, 0, 3)
	keptP, keptQ := copied(p), copied(q)
	for range 2 {
		same(t, p, q, 50, 1, 3)
		same(t, q, p, 50, 2, 5)
		same(t, p, q, 50, 3, 7)
	}
	if !samePlan(p, keptP) || !samePlan(q, keptQ) {
		t.Errorf("Same wrote into its plans: %v, %v", p, q)
	}
}
