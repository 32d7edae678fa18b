package sight

import (
	"math"
	"slices"
	"testing"

	"framekeep/api"
	"framekeep/kernel"
	"framekeep/plain"
	"framekeep/plan"
)

// parsed is the plan of a text.
func parsed(t *testing.T, text string) api.Plan {
	t.Helper()
	p, err := plan.Parse(text)
	if err != nil {
		t.Fatalf("Parse(%q): got %v", text, err)
	}
	return p
}

// made is a kernel of a plan, so many ticks on.
func made(t *testing.T, p api.Plan, ticks int) *kernel.Kernel {
	t.Helper()
	k, err := kernel.New(p)
	if err != nil {
		t.Fatalf("New(%v): got %v", p, err)
	}
	for range ticks {
		k.Tick()
	}
	return k
}

func sameHeld(a, b api.Held) bool { return a.Lost == b.Lost && slices.Equal(a.Items, b.Items) }

// sees asks for all that Of answers where nothing is wrong.
func sees(t *testing.T, k *kernel.Kernel, p api.Plan, room int, want api.State, held ...api.Held) {
	t.Helper()
	s, h, err := Of(k, p, room)
	if s != want || !slices.EqualFunc(h, held, sameHeld) || err != nil {
		t.Errorf("Of room %d at %d: got %v, %v, %v, want %v, %v", room, k.Time(), s, h, err, want, held)
	}
}

// blind asks for an error of Of, and that nothing comes with it.
func blind(t *testing.T, k *kernel.Kernel, p api.Plan, room int, want api.Errno) {
	t.Helper()
	s, h, err := Of(k, p, room)
	if s != (api.State{}) || len(h) != 0 || plain.Told(err) != want {
		t.Errorf("Of room %d of %v: got %v, %v, %v, want %v", room, p, s, h, plain.Told(err), want)
	}
}

// goes asks for all that Run answers where nothing is wrong.
func goes(t *testing.T, p api.Plan, n, room int, want []api.State) {
	t.Helper()
	got, err := Run(p, n, room)
	if !slices.Equal(got, want) || err != nil {
		t.Errorf("Run of %d ticks of room %d: got %v, %v, want %v", n, room, got, err, want)
	}
}

// stuck asks for an error of Run, and that nothing comes with it.
func stuck(t *testing.T, p api.Plan, n, room int, want api.Errno) {
	t.Helper()
	got, err := Run(p, n, room)
	if len(got) != 0 || plain.Told(err) != want {
		t.Errorf("Run(%v, %d, %d): got %v, %v, want %v", p, n, room, got, plain.Told(err), want)
	}
}

// rests is code of n ops that are all right.
func rests(n int) []api.Op { return slices.Repeat([]api.Op{{What: api.Rest}}, n) }

// great is a plan with as many rooms, ops, ticks, spans and wires as there may be.
func great() api.Plan {
	p := api.Plan{Ticks: 40}
	for i := range 12 {
		p.Spans = append(p.Spans, api.Span{From: 3 * i, To: 3*i + 3, Room: i % 5})
		p.Wires = append(p.Wires, api.Wire{From: i % 5, To: (i + 1) % 5, Kind: api.Queue, Deep: 1 + i%6})
	}
	for range 5 {
		p.Code = append(p.Code, rests(20))
	}
	return p
}

// three is a plan of three rooms: room 0 sends on wires 0, 2 and 4, room 1 on wire 1, room 2 on wire 3; room 1 takes from wire 0.
func three(t *testing.T) api.Plan {
	t.Helper()
	return parsed(t, "frame 10\nspan 0 5 0\nspan 5 7 1\nspan 7 9 2\n"+
		"wire 0 1 2 3\nwire 1 2 1 1\nwire 0 2 2 1\nwire 2 0 2 2\nwire 0 1 1 1\n"+
		"room\nset 0 7\nsend 0 0\nsend 0 2\nsend 0 2\nsend 0 4\n"+
		"room\ntake 1 0\nsend 1 1\nfail\n"+
		"room\nset 5 999\nsend 5 3\n")
}

// none is what a wire holds that holds nothing, and some is what holds these.
var none = api.Held{}

func some(lost int, items ...int) api.Held { return api.Held{Items: items, Lost: lost} }

func TestS1OfANewKernel(t *testing.T) {
	p := three(t)
	k := made(t, p, 0)
	sees(t, k, p, 0, api.State{}, none, none, none, none)
	sees(t, k, p, 1, api.State{}, none, none, none)
	sees(t, k, p, 2, api.State{}, none, none, none)
}

// TestS1OfFollowsTheTicks: of each room by hand, behind each room's turn: its wires by number, those that lead to it and those that come from it, and no others.
func TestS1OfFollowsTheTicks(t *testing.T) {
	p := three(t)
	k := made(t, p, 5)
	sees(t, k, p, 0, api.State{Cells: [6]int{7}}, some(0, 7), some(1, 7), none, some(0, 7))
	sees(t, k, p, 1, api.State{}, some(0, 7), none, some(0, 7))
	sees(t, k, p, 2, api.State{}, none, some(1, 7), none)
	k.Tick()
	k.Tick()
	sees(t, k, p, 0, api.State{Cells: [6]int{7}}, none, some(1, 7), none, some(0, 7))
	sees(t, k, p, 1, api.State{At: 2, Cells: [6]int{0, 7}}, none, some(0, 7), some(0, 7))
	sees(t, k, p, 2, api.State{}, some(0, 7), some(1, 7), none)
	k.Tick()
	k.Tick()
	sees(t, k, p, 0, api.State{Cells: [6]int{7}}, none, some(1, 7), some(0, 999), some(0, 7))
	sees(t, k, p, 2, api.State{Cells: [6]int{5: 999}}, some(0, 7), some(1, 7), some(0, 999))
	for range 7 {
		k.Tick()
	}
	sees(t, k, p, 1, api.State{At: 2, Cells: [6]int{0, 7}, Failed: true}, some(0, 7), some(0, 7), some(0, 7))
	sees(t, k, p, 0, api.State{Cells: [6]int{7}}, some(0, 7), some(3, 7), some(0, 999), some(0, 7))
}

// TestS1OfBehindAPoke: it is the kernel's state, however it came to be.
func TestS1OfBehindAPoke(t *testing.T) {
	p := three(t)
	k := made(t, p, 0)
	if err := k.Poke(2, 4, 500); err != nil {
		t.Fatal(err)
	}
	sees(t, k, p, 2, api.State{Cells: [6]int{4: 500}}, none, none, none)
	sees(t, k, p, 1, api.State{}, none, none, none)
}

// TestS1OfEdges: a room without a wire in the least plan, and each room of the greatest one.
func TestS1OfEdges(t *testing.T) {
	least := api.Plan{Code: [][]api.Op{rests(1)}, Ticks: 1}
	sees(t, made(t, least, 3), least, 0, api.State{})
	p := great()
	for i := range 5 {
		p.Code[i][0] = api.Op{What: api.Set, A: i, B: 100 + i}
		p.Code[i][1] = api.Op{What: api.Send, A: i, B: i}
	}
	k := made(t, p, 15)
	for room := range 5 {
		want := api.State{At: 3}
		want.Cells[room] = 100 + room
		var held []api.Held
		for i := range 12 {
			if i%5 != room && (i+1)%5 != room {
				continue
			}
			if i < 5 {
				held = append(held, some(0, 100+i))
			} else {
				held = append(held, none)
			}
		}
		sees(t, k, p, room, want, held...)
	}
	// Twelve wires around one room are all there.
	all := three(t)
	all.Code = [][]api.Op{rests(1), {{What: api.Send, B: 11}}}
	all.Spans = []api.Span{{From: 0, To: 1, Room: 1}}
	all.Wires = slices.Repeat([]api.Wire{{From: 1, To: 0, Kind: api.Sample, Deep: 1}}, 12)
	want := append(make([]api.Held, 11), some(0, 0))
	sees(t, made(t, all, 1), all, 0, api.State{}, want...)
	sees(t, made(t, all, 1), all, 1, api.State{}, want...)
}

func TestS1OfNoSuchRoom(t *testing.T) {
	p := three(t)
	k := made(t, p, 9)
	for _, room := range []int{math.MinInt, -1, 3, 4, 5, 1000, math.MaxInt} {
		blind(t, k, p, room, api.ErrRange)
	}
	least := api.Plan{Code: [][]api.Op{rests(1)}, Ticks: 1}
	blind(t, made(t, least, 1), least, 1, api.ErrRange)
	blind(t, made(t, great(), 1), great(), 5, api.ErrRange)
}

// wrong is plans that Check refuses, by what it tells.
func wrong() map[api.Errno]api.Plan {
	shape, full, clash := great(), great(), great()
	shape.Code[0][0] = api.Op{What: api.Send, B: 1}
	full.Code[4] = rests(21)
	clash.Spans[11] = api.Span{From: 2, To: 3}
	ranged := great()
	ranged.Ticks = 41
	return map[api.Errno]api.Plan{
		api.ErrNone: {}, api.ErrShape: shape, api.ErrFull: full, api.ErrClash: clash, api.ErrRange: ranged,
	}
}

// TestS1OfChecksFirst: a wrong plan is told ahead of a wrong room, and of a wire that is not there.
func TestS1OfChecksFirst(t *testing.T) {
	small := made(t, api.Plan{Code: [][]api.Op{rests(1)}, Ticks: 1}, 1)
	for want, p := range wrong() {
		for _, room := range []int{-1, 0, 4, 5, math.MaxInt} {
			blind(t, made(t, great(), 7), p, room, want)
			blind(t, small, p, room, want)
			blind(t, nil, p, room, want)
		}
	}
}

// TestS1OfAKernelOfAnotherPlan: what either has not is not there; which wires are a room's the plan tells, and what they hold the kernel.
func TestS1OfAKernelOfAnotherPlan(t *testing.T) {
	p := three(t)
	k := made(t, p, 5)
	fewer := api.Plan{Code: [][]api.Op{rests(1), rests(1)}, Ticks: 1}
	// A room that only the kernel, or only the plan has.
	blind(t, k, fewer, 2, api.ErrRange)
	blind(t, made(t, fewer, 1), p, 2, api.ErrRange)
	blind(t, nil, p, 0, api.ErrRange)
	// The kernel has more wires: only the plan's are a room's.
	sees(t, k, fewer, 0, api.State{Cells: [6]int{7}})
	fewer.Wires = []api.Wire{{From: 0, To: 1, Kind: api.Sample, Deep: 1}}
	sees(t, k, fewer, 1, api.State{}, some(0, 7))
	// The plan has more: the first one that is missing is told, and nothing of those ahead of it.
	few := made(t, fewer, 1)
	blind(t, few, p, 0, api.ErrRange)
	blind(t, few, p, 1, api.ErrRange)
	// One that is missing, but is no wire of the room, does not matter.
	more := p
	more.Wires = slices.Clone(p.Wires)
	more.Wires = append(more.Wires, api.Wire{From: 2, To: 1, Kind: api.Queue, Deep: 6})
	sees(t, k, more, 0, api.State{Cells: [6]int{7}}, some(0, 7), some(1, 7), none, some(0, 7))
	// Behind these ticks each room's state is another one than the empty one that goes with an error.
	on := made(t, p, 9)
	blind(t, on, more, 1, api.ErrRange)
	blind(t, on, more, 2, api.ErrRange)
}

// copied is a plan with memory of its own.
func copied(p api.Plan) api.Plan {
	q := api.Plan{Ticks: p.Ticks, Spans: slices.Clone(p.Spans), Wires: slices.Clone(p.Wires)}
	for _, l := range p.Code {
		q.Code = append(q.Code, slices.Clone(l))
	}
	return q
}

func samePlan(p, q api.Plan) bool {
	return p.Ticks == q.Ticks && slices.Equal(p.Spans, q.Spans) && slices.Equal(p.Wires, q.Wires) && slices.EqualFunc(p.Code, q.Code, slices.Equal)
}

// TestP1OfChangesNothing: neither what it tells, nor an error, is to be told from the kernel behind it.
func TestP1OfChangesNothing(t *testing.T) {
	p := three(t)
	asked, other := made(t, p, 0), made(t, p, 0)
	for range 40 {
		for room := -1; room <= 3; room++ {
			Of(asked, p, room)
			Of(asked, api.Plan{}, room)
		}
		if got, want := asked.Tick(), other.Tick(); got != want {
			t.Fatalf("behind Of: got %v, want %v", got, want)
		}
		for room := range 3 {
			s, h, err := Of(other, p, room)
			if err != nil {
				t.Fatal(err)
			}
			sees(t, asked, p, room, s, h...)
		}
	}
}

// TestP2OfIsTheCallers: the lists of an answer are nobody else's, and the plan is not written into.
func TestP2OfIsTheCallers(t *testing.T) {
	p := three(t)
	kept := copied(p)
	k := made(t, p, 5)
	_, first, _ := Of(k, p, 1)
	for i := range first {
		held := first[i].Items
		held = append(held, 1, 2, 3)
		for j := range held {
			held[j] = -1
		}
		first[i] = some(9, held...)
	}
	sees(t, k, p, 1, api.State{}, some(0, 7), none, some(0, 7))
	_, second, _ := Of(k, p, 1)
	for range 6 {
		k.Tick()
	}
	if !slices.EqualFunc(second, []api.Held{some(0, 7), none, some(0, 7)}, sameHeld) {
		t.Errorf("an answer of Of, ticks behind it: got %v", second)
	}
	if !samePlan(p, kept) {
		t.Errorf("Of wrote into its plan: %v", p)
	}
}

// TestS1Run: by hand; each state is the one ahead of a tick, and the last one behind all.
func TestS1Run(t *testing.T) {
	p := parsed(t, "frame 4\nspan 1 2 1\nspan 2 4 0\nwire 0 1 2 2\nroom\nset 0 5\nsend 0 0\nroom\ntake 3 0\nfail\n")
	zero := api.State{}
	set := api.State{At: 1, Cells: [6]int{5}}
	sent := api.State{Cells: [6]int{5}}
	took := api.State{At: 1, Cells: [6]int{3: 5}}
	failed := api.State{At: 1, Cells: [6]int{3: 5}, Failed: true}
	all := [][]api.State{
		{zero, zero, zero, set, sent, sent, sent, set, sent, sent, sent, set, sent, sent, sent},
		{zero, zero, zero, zero, zero, zero, took, took, took, took, failed, failed, failed, failed, failed},
	}
	for room, want := range all {
		for n := range len(want) {
			goes(t, p, n, room, want[:n+1])
		}
	}
}

// TestS1RunAsTheKernel: of each room, as many ticks as may be are those of a kernel.
func TestS1RunAsTheKernel(t *testing.T) {
	for _, p := range []api.Plan{three(t), great(), {Code: [][]api.Op{rests(1)}, Ticks: 1}} {
		for room := range p.Code {
			k := made(t, p, 0)
			var want []api.State
			for range 2001 {
				s, err := k.State(room)
				if err != nil {
					t.Fatal(err)
				}
				want = append(want, s)
				k.Tick()
			}
			goes(t, p, 2000, room, want)
			goes(t, p, 1999, room, want[:2000])
			goes(t, p, 1, room, want[:2])
			goes(t, p, 0, room, want[:1])
		}
	}
}

// TestS1RunIsNew: a run hangs neither on another one, nor on a kernel of the same plan.
func TestS1RunIsNew(t *testing.T) {
	p := three(t)
	want := ran(t, p, 30, 1)
	made(t, p, 17)
	ran(t, p, 50, 0)
	goes(t, p, 30, 1, want)
}

// ran is what Run answers where nothing is wrong.
func ran(t *testing.T, p api.Plan, n, room int) []api.State {
	t.Helper()
	l, err := Run(p, n, room)
	if err != nil {
		t.Fatal(err)
	}
	return l
}

func TestS1RunOfWrongNumbers(t *testing.T) {
	p := three(t)
	for _, n := range []int{math.MinInt, -1, 2001, math.MaxInt} {
		for _, room := range []int{-1, 0, 2, 3} {
			stuck(t, p, n, room, api.ErrRange)
		}
	}
	for _, room := range []int{math.MinInt, -1, 3, 4, 5, math.MaxInt} {
		for _, n := range []int{-1, 0, 1, 2000, 2001} {
			stuck(t, p, n, room, api.ErrRange)
		}
	}
	stuck(t, great(), 0, 5, api.ErrRange)
}

func TestS1RunChecksFirst(t *testing.T) {
	for want, p := range wrong() {
		for _, room := range []int{-1, 0, 4, 5, math.MaxInt} {
			for _, n := range []int{math.MinInt, -1, 0, 2000, 2001, math.MaxInt} {
				stuck(t, p, n, room, want)
			}
		}
	}
}

func TestP2RunIsTheCallers(t *testing.T) {
	p := three(t)
	kept := copied(p)
	first := ran(t, p, 20, 1)
	want := slices.Clone(first)
	for i := range first {
		first[i] = api.State{At: -1}
	}
	goes(t, p, 20, 1, want)
	if !samePlan(p, kept) {
		t.Errorf("Run wrote into its plan: %v", p)
	}
}
