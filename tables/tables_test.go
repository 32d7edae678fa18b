package tables

import (
	"math"
	"slices"
	"testing"

	"framekeep/api"
	"framekeep/plain"
	"framekeep/plan"
)

// parsed is the plan of a text.
func parsed(t *testing.T, text string) api.Plan {
	t.Helper()
	p, err := plan.Parse(text)
	if err != nil {
		t.Fatalf("Parse(%q): got %v", text, err)
	}
	return p
}

// made are tables of a plan.
func made(t *testing.T, p api.Plan, l ...[]api.Span) *Tables {
	t.Helper()
	x, err := New(p, l)
	if x == nil || err != nil {
		t.Fatalf("New(%v, %v): got %v, %v", p, l, x, err)
	}
	return x
}

// refused asks for an error of New: there are no tables then.
func refused(t *testing.T, want api.Errno, p api.Plan, l ...[]api.Span) {
	t.Helper()
	if x, err := New(p, l); x != nil || plain.Told(err) != want {
		t.Errorf("New(%v, %v): got %v, %v, want %v", p, l, x, plain.Told(err), want)
	}
}

// asked asks for a list, and then which one counts at the next tick.
func asked(t *testing.T, x *Tables, i int, want api.Errno, then int) {
	t.Helper()
	if got := plain.Told(x.Ask(i)); got != want {
		t.Errorf("Ask(%d): got %v, want %v", i, got, want)
	}
	counts(t, x, then)
}

// counts asks which list counts at the next tick.
func counts(t *testing.T, x *Tables, want int) {
	t.Helper()
	if got := x.Now(); got != want {
		t.Errorf("Now: got %d, want %d", got, want)
	}
}

// ticked asks for the events of the next ticks.
func ticked(t *testing.T, x *Tables, want ...api.Event) {
	t.Helper()
	for _, e := range want {
		if got := x.Tick(); got != e {
			t.Errorf("Tick: got %v, want %v", got, e)
		}
	}
}

// stands asks for the state of a room.
func stands(t *testing.T, x *Tables, room int, want api.State) {
	t.Helper()
	if got, err := x.State(room); got != want || err != nil {
		t.Errorf("State(%d): got %v, %v, want %v", room, got, err, want)
	}
}

// whole is a list that gives all ticks of a frame to one room.
func whole(ticks, room int) []api.Span { return []api.Span{{To: ticks, Room: room}} }

// rests is code of n ops that are all right.
func rests(n int) []api.Op { return slices.Repeat([]api.Op{{What: api.Rest}}, n) }

// quiet is a plan of five rooms that rest, so that an event tells the tick and who has it alone; and lists of which each gives a whole frame to the room of its number.
func quiet(ticks, lists int) (api.Plan, [][]api.Span) {
	var l [][]api.Span
	for i := range lists {
		l = append(l, whole(ticks, i))
	}
	return api.Plan{Code: slices.Repeat([][]api.Op{rests(1)}, 5), Ticks: ticks}, l
}

// full is a list of so many spans, of one tick each.
func full(spans int) []api.Span {
	var l []api.Span
	for i := range spans {
		l = append(l, api.Span{From: 3 * i, To: 3*i + 1, Room: i % 5})
	}
	return l
}

// great is a plan with as many rooms, ops, ticks, spans and wires as there may be.
func great() api.Plan {
	p := api.Plan{Ticks: 40, Spans: full(12)}
	for i := range 12 {
		p.Wires = append(p.Wires, api.Wire{From: i % 5, To: (i + 1) % 5, Kind: api.Queue, Deep: 1 + i%6})
	}
	for range 5 {
		p.Code = append(p.Code, rests(20))
	}
	return p
}

// wrongLists of great's frame, each with what frame.Check says of it.
func wrongLists() map[api.Errno][][]api.Span {
	return map[api.Errno][][]api.Span{
		api.ErrRange: {
			{{From: -1, To: 1}}, {{From: math.MinInt, To: 1}}, {{}}, {{From: 1, To: 1}}, {{From: 2, To: 1}},
			{{To: 41}}, {{To: math.MaxInt}}, {{From: 40, To: 41}}, {{To: 1, Room: -1}}, {{To: 1, Room: 5}},
			append(full(11), api.Span{From: 39, To: 41}),
		},
		api.ErrFull:  {full(13), append(full(12), api.Span{From: -1})},
		api.ErrClash: {{{To: 1}, {To: 1}}, {{To: 40}, {From: 39, To: 40, Room: 4}}, append(full(11), api.Span{From: 30, To: 34})},
	}
}

func TestT1NewIsNew(t *testing.T) {
	x := made(t, api.Plan{Code: [][]api.Op{rests(1)}, Ticks: 1}, nil)
	counts(t, x, 0)
	stands(t, x, 0, api.State{})
	x = made(t, great(), full(12), whole(40, 4), nil, []api.Span{})
	counts(t, x, 0)
	for room := range 5 {
		stands(t, x, room, api.State{})
	}
}

// TestT1NewOfTooManyOrNone: how many lists there are is told ahead of all that is wrong with them, and with the plan.
func TestT1NewOfTooManyOrNone(t *testing.T) {
	wrong := great()
	wrong.Code[0] = rests(21)
	for _, p := range []api.Plan{great(), wrong, {}, {Code: make([][]api.Op, 6)}, {Ticks: 41}} {
		for lists := range 20 {
			for _, spans := range [][]api.Span{nil, full(12), full(13), {{}}, {{To: 1}, {To: 1}}} {
				l := slices.Repeat([][]api.Span{spans}, lists)
				switch {
				case lists > 4:
					refused(t, api.ErrFull, p, l...)
				case lists == 0:
					refused(t, api.ErrNone, p, l...)
					refused(t, api.ErrNone, p, [][]api.Span{}...)
				}
			}
		}
	}
	for lists := 1; lists <= 4; lists++ {
		made(t, great(), slices.Repeat([][]api.Span{full(12)}, lists)...)
	}
}

// TestT1NewOfWrongPlans: all but its spans is asked, however many lists there are.
func TestT1NewOfWrongPlans(t *testing.T) {
	cases := []struct {
		want   api.Errno
		change func(p *api.Plan)
	}{
		{api.ErrNone, func(p *api.Plan) { *p = api.Plan{} }},
		{api.ErrNone, func(p *api.Plan) { p.Code = nil }},
		{api.ErrFull, func(p *api.Plan) { p.Code = append(p.Code, rests(1)) }},
		{api.ErrRange, func(p *api.Plan) { p.Ticks = 41 }},
		{api.ErrRange, func(p *api.Plan) { p.Ticks = 0 }},
		{api.ErrRange, func(p *api.Plan) { p.Ticks = math.MinInt }},
		{api.ErrRange, func(p *api.Plan) { p.Ticks = 33 }},
		{api.ErrFull, func(p *api.Plan) { p.Wires = append(p.Wires, p.Wires[0]) }},
		{api.ErrShape, func(p *api.Plan) { p.Wires[11].To = p.Wires[11].From }},
		{api.ErrRange, func(p *api.Plan) { p.Code = p.Code[:4] }},
		{api.ErrNone, func(p *api.Plan) { p.Code[4] = nil }},
		{api.ErrFull, func(p *api.Plan) { p.Code[4] = rests(21) }},
		{api.ErrRange, func(p *api.Plan) { p.Code[4][19] = api.Op{What: 12} }},
		{api.ErrShape, func(p *api.Plan) { p.Code[0][0] = api.Op{What: api.Send, B: 1} }},
	}
	for _, c := range cases {
		for lists := 1; lists <= 4; lists++ {
			p := great()
			c.change(&p)
			refused(t, c.want, p, slices.Repeat([][]api.Span{full(12)}, lists)...)
		}
	}
}

// TestT1NewOfWrongLists: wherever it stands; of several the first one is told.
func TestT1NewOfWrongLists(t *testing.T) {
	for want, wrong := range wrongLists() {
		for _, spans := range wrong {
			for lists := 1; lists <= 4; lists++ {
				for at := range lists {
					l := slices.Repeat([][]api.Span{full(12)}, lists)
					l[at] = spans
					refused(t, want, great(), l...)
					for _, others := range wrongLists() {
						for i := at + 1; i < lists; i++ {
							l[i] = others[0]
						}
						refused(t, want, great(), l...)
					}
				}
			}
		}
	}
}

// TestT1NewListByList: all of the plan is asked with the first list ahead of the second one; and of one list in the order of chapter 6.
func TestT1NewListByList(t *testing.T) {
	clash, fine := []api.Span{{To: 1}, {To: 1}}, full(12)
	p := great()
	p.Code[4] = nil
	refused(t, api.ErrNone, p, fine, clash)
	refused(t, api.ErrClash, p, clash, fine)
	p = great()
	p.Code[0][0] = api.Op{What: api.Take}
	refused(t, api.ErrShape, p, fine, clash, clash, clash)
	refused(t, api.ErrClash, p, clash, clash, clash, clash)
	p = great()
	p.Wires = append(p.Wires, p.Wires[0])
	refused(t, api.ErrFull, p, fine, clash)
	refused(t, api.ErrClash, p, clash, fine)
	// A span names a room that has no code: it is told behind the wires and ahead of the codes.
	p = great()
	p.Code, p.Wires = p.Code[:2], []api.Wire{{To: 1, Kind: api.Sample, Deep: 1}}
	refused(t, api.ErrRange, p, whole(40, 1), whole(40, 2), clash)
	refused(t, api.ErrClash, p, whole(40, 1), clash, whole(40, 2))
	p.Wires[0].To = 0
	refused(t, api.ErrShape, p, whole(40, 2))
	p.Wires, p.Code[0] = nil, rests(21)
	refused(t, api.ErrRange, p, whole(40, 2), whole(40, 1))
	refused(t, api.ErrFull, p, whole(40, 1), whole(40, 2))
}

// TestT1OwnSpansNeverCount: the plan's own spans are neither asked nor counted, whatever they are.
func TestT1OwnSpansNeverCount(t *testing.T) {
	p, l := quiet(40, 2)
	own := [][]api.Span{nil, whole(40, 3)}
	for _, wrong := range wrongLists() {
		own = append(own, wrong...)
	}
	for _, spans := range own {
		p.Spans = spans
		x := made(t, p, l...)
		for n := range 120 {
			if n == 50 {
				asked(t, x, 1, api.OK, 0)
			}
			ticked(t, x, api.Event{Tick: n, Room: n / 80})
		}
	}
}

// TestT1FromTheNextFrameOn: of a frame of each length, asked for ahead of each of its ticks: a frame that was begun is kept to its end; then another list counts, and goes on to count.
func TestT1FromTheNextFrameOn(t *testing.T) {
	for ticks := 1; ticks <= 40; ticks++ {
		p, l := quiet(ticks, 4)
		for at := range 2 * ticks {
			list := at % 4
			x := made(t, p, l...)
			for n := range 5 * ticks {
				want := 0
				if n >= (at+ticks-1)/ticks*ticks {
					want = list
				}
				if n == at {
					asked(t, x, list, api.OK, want)
				}
				counts(t, x, want)
				ticked(t, x, api.Event{Tick: n, Room: want})
			}
		}
	}
}

// TestT1EachListFromEachOther: and back.
func TestT1EachListFromEachOther(t *testing.T) {
	p, l := quiet(3, 4)
	for a := range 4 {
		for b := range 4 {
			x := made(t, p, l...)
			asked(t, x, a, api.OK, a)
			ticked(t, x, api.Event{Room: a})
			asked(t, x, b, api.OK, a)
			ticked(t, x, api.Event{Tick: 1, Room: a}, api.Event{Tick: 2, Room: a})
			counts(t, x, b)
			ticked(t, x, api.Event{Tick: 3, Room: b}, api.Event{Tick: 4, Room: b})
			asked(t, x, a, api.OK, b)
			ticked(t, x, api.Event{Tick: 5, Room: b})
			counts(t, x, a)
			ticked(t, x, api.Event{Tick: 6, Room: a})
		}
	}
}

// TestT1TheOneAskedLast: of all that were asked for within a frame, be it the one that counts.
func TestT1TheOneAskedLast(t *testing.T) {
	p, l := quiet(4, 4)
	x := made(t, p, l...)
	ticked(t, x, api.Event{})
	asked(t, x, 1, api.OK, 0)
	ticked(t, x, api.Event{Tick: 1})
	asked(t, x, 3, api.OK, 0)
	asked(t, x, 2, api.OK, 0)
	ticked(t, x, api.Event{Tick: 2}, api.Event{Tick: 3})
	counts(t, x, 2)
	ticked(t, x, api.Event{Tick: 4, Room: 2})
	asked(t, x, 3, api.OK, 2)
	asked(t, x, 2, api.OK, 2)
	for n := 5; n < 12; n++ {
		ticked(t, x, api.Event{Tick: n, Room: 2})
		counts(t, x, 2)
	}
}

// TestT1AheadOfAFrame: where a frame begins at the next tick, the one asked for counts at once, but another one may be asked for until that tick; whoever asks which counts settles nothing.
func TestT1AheadOfAFrame(t *testing.T) {
	p, l := quiet(2, 4)
	x := made(t, p, l...)
	for _, list := range []int{3, 1, 0, 2, 0, 1} {
		asked(t, x, list, api.OK, list)
		counts(t, x, list)
	}
	ticked(t, x, api.Event{Room: 1})
	asked(t, x, 2, api.OK, 1)
	ticked(t, x, api.Event{Tick: 1, Room: 1})
	counts(t, x, 2)
	asked(t, x, 3, api.OK, 3)
	asked(t, x, 1, api.OK, 1)
	ticked(t, x, api.Event{Tick: 2, Room: 1}, api.Event{Tick: 3, Room: 1})
	counts(t, x, 1)
	asked(t, x, 0, api.OK, 0)
	ticked(t, x, api.Event{Tick: 4}, api.Event{Tick: 5}, api.Event{Tick: 6})
	counts(t, x, 0)
}

// TestT1AskForNone: nothing is changed then: neither what counts, nor what was asked for ahead.
func TestT1AskForNone(t *testing.T) {
	for lists := 1; lists <= 4; lists++ {
		p, l := quiet(2, lists)
		last := lists - 1
		for _, none := range []int{math.MinInt, -1000, -4, -1, lists, lists + 1, 5, 1000, math.MaxInt} {
			x := made(t, p, l...)
			asked(t, x, none, api.ErrRange, 0)
			ticked(t, x, api.Event{})
			asked(t, x, none, api.ErrRange, 0)
			asked(t, x, last, api.OK, 0)
			asked(t, x, none, api.ErrRange, 0)
			ticked(t, x, api.Event{Tick: 1})
			asked(t, x, none, api.ErrRange, last)
			ticked(t, x, api.Event{Tick: 2, Room: last}, api.Event{Tick: 3, Room: last})
			asked(t, x, none, api.ErrRange, last)
			ticked(t, x, api.Event{Tick: 4, Room: last})
		}
	}
}

// TestT1NobodysTicks: of a list that gives only some ticks, or none, nobody has the others, and nothing but the time goes on.
func TestT1NobodysTicks(t *testing.T) {
	p := parsed(t, "frame 3\nroom\nset 0 4\nset 0 5\n")
	x := made(t, p, nil, []api.Span{{From: 1, To: 2}}, []api.Span{})
	nobody := func(n int) api.Event { return api.Event{Tick: n, Room: -1} }
	ticked(t, x, nobody(0))
	asked(t, x, 1, api.OK, 0)
	ticked(t, x, nobody(1), nobody(2))
	stands(t, x, 0, api.State{})
	ticked(t, x, nobody(3), api.Event{Tick: 4}, nobody(5), nobody(6), api.Event{Tick: 7, At: 1})
	asked(t, x, 2, api.OK, 1)
	ticked(t, x, nobody(8))
	counts(t, x, 2)
	for n := 9; n < 30; n++ {
		ticked(t, x, nobody(n))
	}
	stands(t, x, 0, api.State{Cells: [6]int{5}})
}

// TestT1RoomsAndWiresGoOn: another list changes neither a room nor what a wire holds.
func TestT1RoomsAndWiresGoOn(t *testing.T) {
	p := parsed(t, "frame 2\nwire 0 1 2 1\nroom\nset 0 7\nsend 0 0\nset 0 8\nsend 0 0\nroom\ntake 0 0\nadd 1 0\n")
	x := made(t, p, whole(2, 0), whole(2, 1))
	ticked(t, x, api.Event{}, api.Event{Tick: 1, At: 1, What: 1})
	asked(t, x, 1, api.OK, 1)
	stands(t, x, 0, api.State{At: 2, Cells: [6]int{7}})
	ticked(t, x, api.Event{Tick: 2, Room: 1, What: 2}, api.Event{Tick: 3, Room: 1, At: 1})
	stands(t, x, 0, api.State{At: 2, Cells: [6]int{7}})
	stands(t, x, 1, api.State{Cells: [6]int{7, 7}})
	asked(t, x, 0, api.OK, 0)
	ticked(t, x, api.Event{Tick: 4, At: 2}, api.Event{Tick: 5, At: 3, What: 1}, api.Event{Tick: 6})
	asked(t, x, 1, api.OK, 0)
	ticked(t, x, api.Event{Tick: 7, At: 1, What: 3})
	stands(t, x, 0, api.State{At: 2, Cells: [6]int{7}})
	stands(t, x, 1, api.State{Cells: [6]int{7, 7}})
	ticked(t, x, api.Event{Tick: 8, Room: 1, What: 2}, api.Event{Tick: 9, Room: 1, At: 1})
	ticked(t, x, api.Event{Tick: 10, Room: 1, What: 3}, api.Event{Tick: 11, Room: 1, What: 3})
	stands(t, x, 1, api.State{Cells: [6]int{8, 15}})
}

// TestT1WhoFailedHasFailed: by whichever list it has its ticks.
func TestT1WhoFailedHasFailed(t *testing.T) {
	p := parsed(t, "frame 2\nroom\nset 3 9\nfail\nrest\n")
	x := made(t, p, whole(2, 0), []api.Span{{From: 1, To: 2}})
	ticked(t, x, api.Event{}, api.Event{Tick: 1, At: 1, What: 4})
	asked(t, x, 1, api.OK, 1)
	ticked(t, x, api.Event{Tick: 2, Room: -1}, api.Event{Tick: 3, At: 1, What: 5})
	asked(t, x, 0, api.OK, 0)
	ticked(t, x, api.Event{Tick: 4, At: 1, What: 5})
	stands(t, x, 0, api.State{At: 1, Cells: [6]int{3: 9}, Failed: true})
}

// TestT1StateOfNoRoom: there are as many rooms as codes, whichever the lists name.
func TestT1StateOfNoRoom(t *testing.T) {
	for rooms := 1; rooms <= 5; rooms++ {
		p := api.Plan{Code: slices.Repeat([][]api.Op{{{What: api.Set, B: 6}}}, rooms), Ticks: 1}
		x := made(t, p, whole(1, 0), whole(1, rooms-1))
		x.Tick()
		asked(t, x, 1, api.OK, 1)
		x.Tick()
		for _, r := range []int{math.MinInt, -1, 0, rooms - 1, rooms, rooms + 1, 5, 1000, math.MaxInt} {
			if r == 0 || r == rooms-1 {
				stands(t, x, r, api.State{Cells: [6]int{6}})
				continue
			}
			if s, err := x.State(r); s != (api.State{}) || plain.Told(err) != api.ErrRange {
				t.Errorf("State(%d) of %d: got %v, %v", r, rooms, s, err)
			}
		}
	}
}

// TestP2ListsAreTheCallers: New and Tick write into neither a plan nor lists, nor behind them; and whoever changes them later changes no tables, be it the list that counts or one that will.
func TestP2ListsAreTheCallers(t *testing.T) {
	text := "frame 2\nspan 0 2 1\nwire 0 1 2 1\nroom\nset 0 5\nsend 0 0\nroom\ntake 1 0\nadd 2 1\n"
	p := parsed(t, text)
	p.Code = append(make([][]api.Op, 0, 9), p.Code...)
	p.Spans = append(make([]api.Span, 0, 9), p.Spans...)
	l := append(make([][]api.Span, 0, 9), append(make([]api.Span, 0, 9), whole(2, 0)...), append(make([]api.Span, 0, 9), whole(2, 1)...))
	x, other := made(t, p, l...), made(t, parsed(t, text), whole(2, 0), whole(2, 1))
	both := func(list int) {
		t.Helper()
		asked(t, x, list, api.OK, list)
		asked(t, other, list, api.OK, list)
		for range 4 {
			ticked(t, x, other.Tick())
			for r := range 2 {
				s, _ := other.State(r)
				stands(t, x, r, s)
			}
		}
	}
	both(0)
	both(1)
	if got, err := plan.Print(p); got != text || err != nil || len(l) != 2 || !slices.Equal(l[0], whole(2, 0)) || !slices.Equal(l[1], whole(2, 1)) {
		t.Errorf("the plan is %q, %v, the lists are %v now", got, err, l)
	}
	if p.Code[:3][2] != nil || p.Spans[:2][1] != (api.Span{}) || l[:3][2] != nil || l[0][:2][1] != (api.Span{}) || l[1][:2][1] != (api.Span{}) {
		t.Errorf("behind the lists: %v, %v", p, l[:3])
	}
	for i := range p.Code {
		clear(p.Code[i])
		p.Code[i] = nil
	}
	clear(p.Spans)
	clear(p.Wires)
	for i := range l {
		clear(l[i])
		l[i] = nil
	}
	both(1)
	both(0)
	both(1)
}

// TestP2TablesAreApart: of two of one plan neither changes the other one; nor do Now and State, however often they are asked, nor who writes into a state that was told.
func TestP2TablesAreApart(t *testing.T) {
	p := parsed(t, "frame 2\nroom\nset 0 1\nset 0 2\nset 0 3\nroom\nrest\n")
	l := [][]api.Span{whole(2, 0), whole(2, 1)}
	a, b := made(t, p, l...), made(t, p, l...)
	for n := range 3 {
		ticked(t, a, api.Event{Tick: n, At: n})
		for range 3 {
			s, _ := a.State(0)
			s.At, s.Failed, s.Cells[5] = 1, true, 1
			a.Now()
		}
	}
	asked(t, a, 1, api.OK, 0)
	counts(t, b, 0)
	stands(t, a, 0, api.State{Cells: [6]int{3}})
	stands(t, b, 0, api.State{})
	ticked(t, b, api.Event{}, api.Event{Tick: 1, At: 1}, api.Event{Tick: 2, At: 2}, api.Event{Tick: 3})
	ticked(t, a, api.Event{Tick: 3}, api.Event{Tick: 4, Room: 1})
	ticked(t, b, api.Event{Tick: 4, At: 1})
	stands(t, a, 0, api.State{At: 1, Cells: [6]int{1}})
	stands(t, b, 0, api.State{At: 2, Cells: [6]int{2}})
}
