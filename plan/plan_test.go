package plan

import (
	"math"
	"reflect"
	"slices"
	"strings"
	"testing"

	"framekeep/api"
	"framekeep/plain"
)

// full is a plan with all that there may be: rooms, spans and wires, and in its codes each op and the greatest numbers.
func full() api.Plan {
	p := api.Plan{Ticks: 40}
	for i := range 12 {
		p.Spans = append(p.Spans, api.Span{From: 36 - 3*i, To: 39 - 3*i, Room: i % 5})
		p.Wires = append(p.Wires, api.Wire{From: i % 5, To: (i + 1) % 5, Kind: api.Queue, Deep: 1 + i%6})
	}
	p.Spans[0].To = 40
	p.Wires[3] = api.Wire{From: 3, To: 4, Kind: api.Sample, Deep: 1}
	p.Code = [][]api.Op{
		{{What: api.Set, A: 5, B: 999}, {What: api.Copy, A: 5, B: 4}, {What: api.Send, A: 5, B: 10}, {What: api.Take, A: 0, B: 9}},
		{{What: api.Add, A: 4, B: 5}, {What: api.Sub, A: 3, B: 2}, {What: api.Take, A: 1, B: 10}, {What: api.Send, B: 11}, {What: api.Send, B: 1}},
		{{What: api.Mul, A: 0, B: 5}, {What: api.Zero, A: 5, B: 2}, {What: api.Take, A: 5, B: 11}, {What: api.Jump, B: 3}},
		rests(20),
		{{What: api.Fail}},
	}
	return p
}

const fullText = "frame 40\n" +
	"span 36 40 0\nspan 33 36 1\nspan 30 33 2\nspan 27 30 3\nspan 24 27 4\nspan 21 24 0\n" +
	"span 18 21 1\nspan 15 18 2\nspan 12 15 3\nspan 9 12 4\nspan 6 9 0\nspan 3 6 1\n" +
	"wire 0 1 2 1\nwire 1 2 2 2\nwire 2 3 2 3\nwire 3 4 1 1\nwire 4 0 2 5\nwire 0 1 2 6\n" +
	"wire 1 2 2 1\nwire 2 3 2 2\nwire 3 4 2 3\nwire 4 0 2 4\nwire 0 1 2 5\nwire 1 2 2 6\n" +
	"room\nset 5 999\ncopy 5 4\nsend 5 10\ntake 0 9\n" +
	"room\nadd 4 5\nsub 3 2\ntake 1 10\nsend 0 11\nsend 0 1\n" +
	"room\nmul 0 5\nzero 5 2\ntake 5 11\njump 3\n" +
	"room\nrest\nrest\nrest\nrest\nrest\nrest\nrest\nrest\nrest\nrest\nrest\nrest\nrest\nrest\nrest\nrest\nrest\nrest\nrest\nrest\n" +
	"room\nfail\n"

// rests is code of n ops that are all right.
func rests(n int) []api.Op { return slices.Repeat([]api.Op{{What: api.Rest}}, n) }

// resting is a plan of n rooms that rest, in a frame of 4 ticks without spans and wires.
func resting(n int) api.Plan { return api.Plan{Code: slices.Repeat([][]api.Op{rests(1)}, n), Ticks: 4} }

// queue from one room to another one.
func queue(from, to int) api.Wire { return api.Wire{From: from, To: to, Kind: api.Queue, Deep: 2} }

// same tells whether two plans are, where an empty list and nil are.
func same(p, q api.Plan) bool {
	return p.Ticks == q.Ticks && slices.Equal(p.Spans, q.Spans) && slices.Equal(p.Wires, q.Wires) && slices.EqualFunc(p.Code, q.Code, slices.Equal[[]api.Op])
}

// checked asks what Check tells of a plan; Print tells the same, and no text where there is an error.
func checked(t *testing.T, p api.Plan, want api.Errno) {
	t.Helper()
	if got := plain.Told(Check(p)); got != want {
		t.Errorf("Check(%v): got %v, want %v", p, got, want)
	}
	text, err := Print(p)
	if plain.Told(err) != want || (text == "") != (want != api.OK) {
		t.Errorf("Print(%v): got %q, %v, want %v", p, text, plain.Told(err), want)
	}
}

// changed asks what Check tells of the full plan, changed.
func changed(t *testing.T, want api.Errno, change func(p *api.Plan)) {
	t.Helper()
	p := full()
	change(&p)
	checked(t, p, want)
}

func TestP1CheckOfHowManyCodes(t *testing.T) {
	checked(t, full(), api.OK)
	for n := 1; n <= 5; n++ {
		checked(t, resting(n), api.OK)
	}
	checked(t, resting(6), api.ErrFull)
	checked(t, resting(1000), api.ErrFull)
	checked(t, api.Plan{Code: make([][]api.Op, 6)}, api.ErrFull)
	checked(t, api.Plan{}, api.ErrNone)
	checked(t, resting(0), api.ErrNone)
	checked(t, api.Plan{Code: [][]api.Op{}, Ticks: 4}, api.ErrNone)
}

func TestP1CheckOfFrame(t *testing.T) {
	for _, ticks := range []int{1, 2, 39, 40} {
		p := resting(1)
		p.Ticks = ticks
		checked(t, p, api.OK)
		p.Spans = []api.Span{{From: 0, To: ticks}}
		checked(t, p, api.OK)
		p.Spans[0].To++
		checked(t, p, api.ErrRange)
	}
	for _, ticks := range []int{math.MinInt, -1, 0, 41, math.MaxInt} {
		changed(t, api.ErrRange, func(p *api.Plan) { p.Ticks = ticks })
	}
	changed(t, api.ErrFull, func(p *api.Plan) { p.Spans = append(p.Spans, api.Span{From: 0, To: 1}) })
	changed(t, api.ErrFull, func(p *api.Plan) { p.Spans = make([]api.Span, 1000) })
	changed(t, api.ErrClash, func(p *api.Plan) { p.Spans[11] = api.Span{From: 6, To: 7} })
	for _, s := range []api.Span{{From: -1, To: 3}, {From: 3, To: 3}, {From: 4, To: 3}, {From: 3, To: 41}, {From: 3, To: 6, Room: -1}, {From: 3, To: 6, Room: 5}, {From: math.MinInt, To: math.MaxInt}} {
		changed(t, api.ErrRange, func(p *api.Plan) { p.Spans[11] = s })
	}
}

func TestP1CheckOfWires(t *testing.T) {
	changed(t, api.ErrFull, func(p *api.Plan) { p.Wires = append(p.Wires, queue(0, 1)) })
	changed(t, api.ErrFull, func(p *api.Plan) { p.Wires = make([]api.Wire, 1000) })
	changed(t, api.ErrShape, func(p *api.Plan) { p.Wires[2] = queue(2, 2) })
	for _, w := range []api.Wire{
		queue(-1, 0), queue(5, 0), queue(0, -1), queue(0, 5), queue(math.MaxInt, math.MinInt),
		{From: 2, To: 3, Kind: 0, Deep: 1}, {From: 2, To: 3, Kind: 3, Deep: 1},
		{From: 2, To: 3, Kind: api.Queue, Deep: 0}, {From: 2, To: 3, Kind: api.Queue, Deep: 7},
		{From: 2, To: 3, Kind: api.Sample, Deep: 0}, {From: 2, To: 3, Kind: api.Sample, Deep: 2},
	} {
		changed(t, api.ErrRange, func(p *api.Plan) { p.Wires[2] = w })
	}
}

// TestP1CheckOfRoomsWithoutCode: each room that chapters 3 and 5 allow, of a span and at either end of a wire.
func TestP1CheckOfRoomsWithoutCode(t *testing.T) {
	for rooms := 1; rooms <= 5; rooms++ {
		for a := range 5 {
			want := api.OK
			if a >= rooms {
				want = api.ErrRange
			}
			p := resting(rooms)
			p.Spans = []api.Span{{From: 0, To: 1}, {From: 2, To: 3, Room: a}}
			checked(t, p, want)
			for b := range 5 {
				if a == b {
					continue
				}
				want := api.OK
				if max(a, b) >= rooms {
					want = api.ErrRange
				}
				p := resting(rooms)
				p.Wires = []api.Wire{queue(a, b)}
				checked(t, p, want)
			}
		}
	}
}

func TestP1CheckOfCodes(t *testing.T) {
	for room := range 5 {
		changed(t, api.ErrNone, func(p *api.Plan) { p.Code[room] = nil })
		changed(t, api.ErrNone, func(p *api.Plan) { p.Code[room] = []api.Op{} })
		changed(t, api.OK, func(p *api.Plan) { p.Code[room] = rests(20) })
		changed(t, api.ErrFull, func(p *api.Plan) { p.Code[room] = rests(21) })
		for _, o := range []api.Op{{}, {What: 12}, {What: api.Set, B: 1000}, {What: api.Jump, B: 1}, {What: api.Send, B: 12}, {What: api.Take, B: -1}, {What: math.MinInt, A: math.MaxInt, B: math.MinInt}} {
			changed(t, api.ErrRange, func(p *api.Plan) { p.Code[room] = []api.Op{o} })
		}
	}
}

// TestP1CheckOfWhereCodeSendsAndTakes: each room, on each wire that chapter 1 allows, with no wires up to all.
func TestP1CheckOfWhereCodeSendsAndTakes(t *testing.T) {
	for wires := range 13 {
		for room := range 5 {
			for i := range 12 {
				p := full()
				p.Wires = p.Wires[:wires]
				p.Code = resting(5).Code
				sends, takes := api.ErrShape, api.ErrShape
				if i < wires && p.Wires[i].From == room {
					sends = api.OK
				}
				if i < wires && p.Wires[i].To == room {
					takes = api.OK
				}
				p.Code[room] = []api.Op{{What: api.Rest}, {What: api.Send, A: 3, B: i}}
				checked(t, p, sends)
				p.Code[room] = []api.Op{{What: api.Take, A: 3, B: i}, {What: api.Rest}}
				checked(t, p, takes)
			}
		}
	}
}

// TestP1CheckOfEachSendAndTake: one that is right, ahead or behind, helps no other one, and no other op's B is a wire.
func TestP1CheckOfEachSendAndTake(t *testing.T) {
	p := resting(3)
	p.Wires = []api.Wire{queue(0, 1), queue(1, 0), queue(1, 2)}
	send := func(i int) api.Op { return api.Op{What: api.Send, B: i} }
	take := func(i int) api.Op { return api.Op{What: api.Take, B: i} }
	cases := []struct {
		l    []api.Op
		want api.Errno
	}{
		{[]api.Op{send(1), send(2), take(0), send(1), take(0)}, api.OK},
		{[]api.Op{send(1), send(0)}, api.ErrShape},
		{[]api.Op{send(0), send(1)}, api.ErrShape},
		{[]api.Op{send(2), send(3)}, api.ErrShape},
		{[]api.Op{take(0), take(1)}, api.ErrShape},
		{[]api.Op{take(2), take(0)}, api.ErrShape},
		{[]api.Op{take(0), take(11)}, api.ErrShape},
		{[]api.Op{send(1), take(2)}, api.ErrShape},
		{[]api.Op{send(0), take(0)}, api.ErrShape},
		{[]api.Op{{What: api.Set, B: 11}, {What: api.Copy, B: 5}, {What: api.Zero, B: 2}, {What: api.Jump, B: 3}}, api.OK},
	}
	for _, c := range cases {
		p.Code[1] = c.l
		checked(t, p, c.want)
	}
}

// TestP1CheckOfAllCodesAheadOfTheirWires: whichever room has a wrong wire, in whichever way, a code that is wrong by itself is told, and of two such codes the first one.
func TestP1CheckOfAllCodesAheadOfTheirWires(t *testing.T) {
	wrong := []struct {
		l    []api.Op
		want api.Errno
	}{
		{nil, api.ErrNone},
		{[]api.Op{}, api.ErrNone},
		{rests(21), api.ErrFull},
		{[]api.Op{{What: api.Jump, B: 1}}, api.ErrRange},
		{[]api.Op{{What: api.Send, B: 11}, {What: api.Take, B: 12}}, api.ErrRange},
	}
	// On a wire that is not there, and at the wrong end of one that is.
	astray := func(p api.Plan, a int) [][]api.Op {
		from := slices.IndexFunc(p.Wires, func(w api.Wire) bool { return w.From == a })
		to := slices.IndexFunc(p.Wires, func(w api.Wire) bool { return w.To == a })
		return [][]api.Op{{{What: api.Send, B: 11}}, {{What: api.Take, B: 11}}, {{What: api.Send, B: to}}, {{What: api.Take, B: from}}}
	}
	for a := range 5 {
		p := resting(5)
		p.Wires = full().Wires[:5]
		for _, l := range astray(p, a) {
			p.Code = resting(5).Code
			p.Code[a] = l
			checked(t, p, api.ErrShape)
			for b := range 5 {
				for _, w := range wrong {
					p.Code = resting(5).Code
					p.Code[a], p.Code[b] = l, w.l
					checked(t, p, w.want)
				}
				for c := range b {
					for i, w := range wrong {
						p.Code = resting(5).Code
						p.Code[a], p.Code[b], p.Code[c] = l, wrong[(i+2)%len(wrong)].l, w.l
						checked(t, p, w.want)
					}
				}
			}
		}
	}
}

// faults of a plan, in the order in which they are told; what is put into the last code is put behind what is there, so that any of them may stand together.
var faults = []struct {
	want   api.Errno
	change func(p *api.Plan)
}{
	{api.ErrFull, func(p *api.Plan) { p.Code = append(p.Code, rests(1), rests(1)) }},
	{api.ErrRange, func(p *api.Plan) { p.Ticks = 0 }},
	{api.ErrClash, func(p *api.Plan) { p.Spans = append(p.Spans, p.Spans[0]) }},
	{api.ErrShape, func(p *api.Plan) { p.Wires = append(p.Wires, queue(1, 1)) }},
	{api.ErrRange, func(p *api.Plan) { p.Wires[0].To = 4 }},
	{api.ErrNone, func(p *api.Plan) { p.Code[0] = nil }},
	{api.ErrFull, func(p *api.Plan) { p.Code[2] = rests(21) }},
	{api.ErrRange, func(p *api.Plan) { p.Code[3][1] = api.Op{What: api.Jump, B: 2} }},
	{api.ErrShape, func(p *api.Plan) { p.Code[1][0] = api.Op{What: api.Take, B: 9} }},
	{api.ErrShape, func(p *api.Plan) { p.Code[3][0] = api.Op{What: api.Send, B: 9} }},
}

// TestP1CheckTellsTheFirst: of all sets of faults the first one's error.
func TestP1CheckTellsTheFirst(t *testing.T) {
	for set := range 1 << len(faults) {
		p := api.Plan{Ticks: 9, Spans: []api.Span{{From: 2, To: 4, Room: 1}}, Wires: []api.Wire{queue(0, 1)}}
		for range 4 {
			p.Code = append(p.Code, rests(2))
		}
		want := api.OK
		for i, f := range faults {
			if set>>i&1 == 0 {
				continue
			}
			f.change(&p)
			if want == api.OK {
				want = f.want
			}
		}
		checked(t, p, want)
	}
}

func TestP1CheckOfFrameAndWiresAheadOfRoomsWithoutCode(t *testing.T) {
	p := resting(1)
	p.Spans = []api.Span{{From: 0, To: 2, Room: 3}, {From: 1, To: 3}}
	checked(t, p, api.ErrClash)
	p.Wires = slices.Repeat([]api.Wire{queue(3, 4)}, 13)
	checked(t, p, api.ErrClash)
	p.Spans = p.Spans[:1]
	checked(t, p, api.ErrFull)
	p.Wires = []api.Wire{queue(3, 4), queue(2, 2)}
	checked(t, p, api.ErrShape)
	checked(t, api.Plan{Ticks: 0, Spans: make([]api.Span, 13), Wires: make([]api.Wire, 13)}, api.ErrNone)
}

// refused asks that a text is none, and how.
func refused(t *testing.T, text string, want api.Errno) {
	t.Helper()
	got, err := Parse(text)
	if !same(got, api.Plan{}) || plain.Told(err) != want {
		t.Errorf("Parse(%q): got %v, %v, want none, %v", text, got, plain.Told(err), want)
	}
}

func TestP2PrintAndParse(t *testing.T) {
	cases := []struct {
		p    api.Plan
		text string
	}{
		{full(), fullText},
		{resting(1), "frame 4\nroom\nrest\n"},
		{resting(5), "frame 4\n" + strings.Repeat("room\nrest\n", 5)},
		{api.Plan{Code: [][]api.Op{rests(20)}, Ticks: 1, Spans: []api.Span{{From: 0, To: 1, Room: 0}}}, "frame 1\nspan 0 1 0\nroom\n" + strings.Repeat("rest\n", 20)},
		{
			api.Plan{Code: [][]api.Op{{{What: api.Send, A: 2, B: 0}}, {{What: api.Take, A: 1, B: 0}, {What: api.Jump}}}, Ticks: 10, Wires: []api.Wire{{From: 0, To: 1, Kind: api.Sample, Deep: 1}}},
			"frame 10\nwire 0 1 1 1\nroom\nsend 2 0\nroom\ntake 1 0\njump 0\n",
		},
	}
	for _, c := range cases {
		if text, err := Print(c.p); text != c.text || err != nil {
			t.Errorf("Print(%v): got %q, %v, want %q", c.p, text, err, c.text)
		}
		if p, err := Parse(c.text); !same(p, c.p) || err != nil {
			t.Errorf("Parse(%q): got %v, %v, want %v", c.text, p, err, c.p)
		}
	}
}

func TestP2ParseOfNoSuchText(t *testing.T) {
	texts := []string{
		"", "\n", " ", "\x00", "\xff\n", "frame", "frame 4", "frame 4 \n", " frame 4\n", "frame  4\n", "frame\n", "frame \n", "frame 4 4\n", "frame x\n", "Frame 4\n", "frame4\n", "frames 4\n",
		"frame 4\r\nroom\r\nrest\r\n", "frame 4\nroom\nrest", "frame 4\nroom", "frame 4\n\n", "\nframe 4\nroom\nrest\n", "frame 4\nroom\nrest\n\n", "frame 4\n\nroom\nrest\n", "frame 4\nroom\n\nrest\n",
		"frame 04\nroom\nrest\n", "frame 0004\nroom\nrest\n", "frame 00\nroom\nrest\n", "frame 10000\nroom\nrest\n", "frame -1\nroom\nrest\n", "frame +4\nroom\nrest\n", "frame 99999999999999999999\nroom\nrest\n", "frame 1_0\nroom\nrest\n",
		"room\nrest\n", "rest\n", "span 0 1 0\nroom\nrest\n", "wire 0 1 1 1\nroom\nrest\n",
		"frame 4\nspan 0 1\nroom\nrest\n", "frame 4\nspan 0 1 0 0\nroom\nrest\n", "frame 4\nspan 0 01 0\nroom\nrest\n", "frame 4\nspan 0 1 10000\nroom\nrest\n", "frame 4\nspan 0 1 -0\nroom\nrest\n", "frame 4\nspan\nroom\nrest\n", "frame 4\nspan 0 1 0 \nroom\nrest\n",
		"frame 4\nwire 0 1 1\nroom\nrest\n", "frame 4\nwire 0 1 1 1 1\nroom\nrest\n", "frame 4\nwire 0 1 1 01\nroom\nrest\n", "frame 4\nwire 0 1 10000 1\nroom\nrest\n", "frame 4\nwire 0 1 a 1\nroom\nrest\n", "frame 4\nwire\nroom\nrest\n",
		"frame 4\nroom 0\nrest\n", "frame 4\nroom \nrest\n", "frame 4\nrooms\nrest\n", "frame 4\nroom\nrest 0\n", "frame 4\nroom\nset 0\n", "frame 4\nroom\nset 0 00\n", "frame 4\nroom\njump 10000\n", "frame 4\nroom\nnone\n", "frame 4\nroom rest\n",
	}
	for _, text := range texts {
		refused(t, text, api.ErrSyntax)
	}
}

// TestP2ParseOfLinesInOrder: of all rows of up to five lines those are taken that have a frame, spans, wires, and rooms with their code, in this order.
func TestP2ParseOfLinesInOrder(t *testing.T) {
	lines := []string{"frame 4\n", "span 0 1 0\n", "wire 0 1 1 1\n", "room\n", "rest\n"}
	var ask func(text, row string)
	ask = func(text, row string) {
		// A row has a letter a line: what is left, once each part is taken from it, stands in no plan.
		left, framed := strings.CutPrefix(row, "f")
		left = strings.TrimLeft(left, "s")
		left = strings.TrimLeft(left, "w")
		left, housed := strings.CutPrefix(left, "r")
		if housed {
			left = strings.Trim(left, "ro")
		}
		_, err := Parse(text)
		if formed := framed && left == ""; formed == (plain.Told(err) == api.ErrSyntax) {
			t.Errorf("Parse(%q): got %v", text, plain.Told(err))
		}
		if len(row) == 5 {
			return
		}
		for i, line := range lines {
			ask(text+line, row+"fswro"[i:i+1])
		}
	}
	ask("", "")
}

func TestP2ParseHasTheErrorOfCheck(t *testing.T) {
	cases := []struct {
		text string
		want api.Errno
	}{
		{"frame 4\n", api.ErrNone},
		{"frame 0\nspan 9 9 9\nwire 9 9 9 9\n", api.ErrNone},
		{"frame 4\nroom\n", api.ErrNone},
		{"frame 4\nroom\nrest\nroom\n", api.ErrNone},
		{"frame 4\nroom\nroom\nrest\n", api.ErrNone},
		{"frame 4\n" + strings.Repeat("room\nrest\n", 6), api.ErrFull},
		{"frame 4\n" + strings.Repeat("room\n", 100000) + strings.Repeat("rest\n", 100000), api.ErrFull},
		{"frame 0\n" + strings.Repeat("room\nset 9 9\n", 6), api.ErrFull},
		{"frame 0\nroom\nrest\n", api.ErrRange},
		{"frame 41\nroom\nrest\n", api.ErrRange},
		{"frame 9999\nroom\nrest\n", api.ErrRange},
		{"frame 4\nspan 0 5 0\nroom\nrest\n", api.ErrRange},
		{"frame 4\nspan 2 2 0\nroom\nrest\n", api.ErrRange},
		{"frame 4\nspan 0 1 9999\nroom\nrest\n", api.ErrRange},
		{"frame 4\nspan 0 1 1\nroom\nrest\n", api.ErrRange},
		{"frame 4\nspan 0 2 0\nspan 1 3 0\nroom\nrest\n", api.ErrClash},
		{"frame 40\n" + strings.Repeat("span 0 1 0\n", 13) + "room\nrest\n", api.ErrFull},
		{"frame 40\n" + strings.Repeat("span 0 1 0\n", 100000) + "room\nrest\n", api.ErrFull},
		{"frame 4\n" + strings.Repeat("wire 0 1 1 1\n", 12) + "room\nrest\nroom\nrest\n", api.OK},
		{"frame 4\n" + strings.Repeat("wire 0 1 1 1\n", 13) + "room\nrest\nroom\nrest\n", api.ErrFull},
		{"frame 4\n" + strings.Repeat("wire 9 9 9 9\n", 100000) + "room\nrest\nroom\nrest\n", api.ErrFull},
		{"frame 4\nwire 0 1 3 1\nroom\nrest\nroom\nrest\n", api.ErrRange},
		{"frame 4\nwire 0 1 1 2\nroom\nrest\nroom\nrest\n", api.ErrRange},
		{"frame 4\nwire 1 1 1 1\nroom\nrest\nroom\nrest\n", api.ErrShape},
		{"frame 4\nwire 0 1 1 1\nroom\nrest\n", api.ErrRange},
		{"frame 4\nwire 1 0 1 1\nroom\nrest\n", api.ErrRange},
		{"frame 4\nroom\n" + strings.Repeat("rest\n", 21), api.ErrFull},
		{"frame 4\nroom\n" + strings.Repeat("jump 99\n", 100000), api.ErrFull},
		{"frame 4\nroom\nrest\njump 2\n", api.ErrRange},
		{"frame 4\nroom\nrest\njump 1\nroom\njump 1\n", api.ErrRange},
		{"frame 4\nroom\nset 0 1000\n", api.ErrRange},
		{"frame 4\nroom\nsend 0 12\n", api.ErrRange},
		{"frame 4\nroom\nsend 0 0\n", api.ErrShape},
		{"frame 4\nwire 0 1 1 1\nroom\ntake 0 0\nroom\nrest\n", api.ErrShape},
		{"frame 4\nwire 0 1 1 1\nroom\nrest\nroom\nsend 0 0\n", api.ErrShape},
		{"frame 4\nroom\nsend 0 0\nroom\nrest\n", api.ErrShape},
		{"frame 4\nroom\nsend 0 0\nroom\njump 1\n", api.ErrRange},
		{"frame 4\nroom\nsend 0 0\nroom\n", api.ErrNone},
		{"frame 4\nroom\ntake 0 0\nroom\n" + strings.Repeat("rest\n", 21), api.ErrFull},
		{"frame 4\nwire 0 1 1 1\nroom\ntake 0 0\nroom\nset 0 1000\n", api.ErrRange},
		{"frame 4\nroom\nsend 0 0\nroom\nroom\njump 1\n", api.ErrNone},
		{"frame 4\nroom\njump 1\nroom\nsend 0 0\n", api.ErrRange},
	}
	for _, c := range cases {
		if c.want != api.OK {
			refused(t, c.text, c.want)
		} else if _, err := Parse(c.text); err != nil {
			t.Errorf("Parse(%q): got %v", c.text, err)
		}
	}
}

func TestP2ParseTellsSyntaxFirst(t *testing.T) {
	refused(t, "frame 0\nroom\nrest", api.ErrSyntax)
	refused(t, "frame 4\n"+strings.Repeat("room\nrest\n", 6)+"frame 4\n", api.ErrSyntax)
	refused(t, "frame 4\n"+strings.Repeat("room\nrest\n", 1000)+"set 0\n", api.ErrSyntax)
	refused(t, "frame 4\n"+strings.Repeat("span 0 1 0\n", 1000)+"span 0 1\n", api.ErrSyntax)
	refused(t, "frame 4\n"+strings.Repeat("wire 1 1 1 1\n", 1000)+"span 0 1 0\nroom\nrest\n", api.ErrSyntax)
	refused(t, "frame 4\nroom\n"+strings.Repeat("rest\n", 1000)+"wire 0 1 1 1\n", api.ErrSyntax)
}

// TestP2ParseTakesWhatPrintWrites: of all texts that are one byte off, and of those with a line that is gone, doubled or elsewhere, those that are taken are printed as they stand.
func TestP2ParseTakesWhatPrintWrites(t *testing.T) {
	taken := 0
	ask := func(text string) {
		p, err := Parse(text)
		if err != nil {
			if !same(p, api.Plan{}) {
				t.Errorf("Parse(%q): got %v beside %v", text, p, err)
			}
			return
		}
		taken++
		if again, err := Print(p); again != text || err != nil {
			t.Errorf("Parse(%q) is taken, but printed as %q, %v", text, again, err)
		}
	}
	const text = "frame 12\nspan 0 4 1\nspan 10 12 0\nwire 0 1 2 3\nwire 1 0 1 1\nroom\nset 1 10\nsend 1 0\njump 1\nroom\nrest\ntake 5 0\nzero 5 0\nfail\n"
	for i := range len(text) {
		ask(text[:i])
		ask(text[:i] + text[i+1:])
		for b := range 256 {
			ask(text[:i] + string([]byte{byte(b)}) + text[i+1:])
			ask(text[:i] + string([]byte{byte(b)}) + text[i:])
		}
	}
	lines := slices.Collect(strings.Lines(text))
	for i, line := range lines {
		without := slices.Delete(slices.Clone(lines), i, i+1)
		ask(strings.Join(without, ""))
		for j := range len(lines) {
			ask(strings.Join(slices.Insert(slices.Clone(lines), j, line), ""))
			ask(strings.Join(slices.Insert(slices.Clone(without), j, line), ""))
		}
	}
	if taken == 0 {
		t.Error("none is taken")
	}
}

// TestP2PlansStayAsTheyAre: neither what is handed in nor what lies behind its lists' lengths is written into, or read.
func TestP2PlansStayAsTheyAre(t *testing.T) {
	laid := func() api.Plan {
		p := full()
		p.Code = append(p.Code, nil, nil)
		p.Spans = append(p.Spans, p.Spans[0])
		p.Wires = append(p.Wires, queue(9, 9))
		p.Code[4] = append(p.Code[4], api.Op{What: 77, A: 77, B: 77})
		return p
	}
	memory := laid()
	p := memory
	p.Code, p.Spans, p.Wires = p.Code[:5], p.Spans[:12], p.Wires[:12]
	p.Code[4] = p.Code[4][:1]
	checked(t, p, api.OK)
	if text, _ := Print(p); text != fullText {
		t.Errorf("Print: got %q", text)
	}
	memory.Code[4] = memory.Code[4][:2]
	if !reflect.DeepEqual(memory, laid()) {
		t.Errorf("changed to %v", memory)
	}
}

// TestP2AnswersAreTheCallers: whoever writes into a list of an answer, and behind it, changes no other one.
func TestP2AnswersAreTheCallers(t *testing.T) {
	p, err := Parse(fullText)
	if err != nil {
		t.Fatal(err)
	}
	want := full()
	for i, l := range p.Code {
		if !slices.Equal(l, want.Code[i]) {
			t.Errorf("code %d is %v now", i, l)
		}
		clear(l[:cap(l)])
	}
	clear(p.Code[:cap(p.Code)])
	if !slices.Equal(p.Spans, want.Spans) {
		t.Errorf("spans are %v now", p.Spans)
	}
	clear(p.Spans[:cap(p.Spans)])
	if !slices.Equal(p.Wires, want.Wires) {
		t.Errorf("wires are %v now", p.Wires)
	}
	clear(p.Wires[:cap(p.Wires)])
	if q, err := Parse(fullText); !same(q, want) || err != nil {
		t.Errorf("another answer is %v, %v", q, err)
	}
}

// TestClone: it is the same plan, right or wrong, in memory of its own: whoever writes into its lists, and behind them, changes neither the plan nor another one of it.
func TestClone(t *testing.T) {
	wrong := func() api.Plan {
		p := full()
		p.Ticks, p.Code[3] = -1, nil
		return p
	}
	none := func() api.Plan { return api.Plan{Ticks: 7} }
	for i, laid := range []func() api.Plan{full, wrong, none} {
		p := laid()
		q, again := Clone(p), Clone(p)
		if !same(q, laid()) {
			t.Errorf("plan %d: got %v, want %v", i, q, laid())
		}
		for _, l := range q.Code {
			clear(l[:cap(l)])
		}
		clear(q.Code[:cap(q.Code)])
		clear(q.Spans[:cap(q.Spans)])
		clear(q.Wires[:cap(q.Wires)])
		if !same(p, laid()) || !same(again, laid()) {
			t.Errorf("plan %d: %v, %v now, want %v", i, p, again, laid())
		}
	}
}
