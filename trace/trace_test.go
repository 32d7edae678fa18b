package trace

import (
	"math"
	"slices"
	"strconv"
	"strings"
	"testing"

	"framekeep/api"
	"framekeep/kernel"
	"framekeep/plain"
	"framekeep/plan"
)

// parsed is the plan of a text.
func parsed(t *testing.T, text string) api.Plan {
	t.Helper()
	p, err := plan.Parse(text)
	if err != nil {
		t.Fatalf("Parse(%q): got %v", text, err)
	}
	return p
}

// events of numbers, four each: tick, room, at, what.
func events(numbers ...int) []api.Event {
	var l []api.Event
	for e := range slices.Chunk(numbers, 4) {
		l = append(l, api.Event{Tick: e[0], Room: e[1], At: e[2], What: e[3]})
	}
	return l
}

// busy is a plan of three rooms in which all comes of ticks that may: the last tick of a frame is nobody's.
func busy(t *testing.T) api.Plan {
	t.Helper()
	return parsed(t, "frame 6\nspan 2 4 1\nspan 0 2 0\nspan 4 5 2\nwire 0 1 2 1\n"+
		"room\nsend 0 0\nsend 0 0\nroom\ntake 0 0\ntake 0 0\nroom\nrest\nfail\n")
}

// busyEvents is what was done in three frames of it, by hand, and busyText is how that is printed.
func busyEvents() []api.Event {
	return events(
		0, 0, 0, 1, 1, 0, 1, 3, 2, 1, 0, 2, 3, 1, 1, 3, 4, 2, 0, 0, 5, -1, 0, 0,
		6, 0, 0, 1, 7, 0, 1, 3, 8, 1, 1, 2, 9, 1, 0, 3, 10, 2, 1, 4, 11, -1, 0, 0,
		12, 0, 0, 1, 13, 0, 1, 3, 14, 1, 0, 2, 15, 1, 1, 3, 16, 2, 1, 5, 17, -1, 0, 0)
}

const busyText = "0 0 0 1\n1 0 1 3\n2 1 0 2\n3 1 1 3\n4 2 0 0\n5 - 0 0\n" +
	"6 0 0 1\n7 0 1 3\n8 1 1 2\n9 1 0 3\n10 2 1 4\n11 - 0 0\n" +
	"12 0 0 1\n13 0 1 3\n14 1 0 2\n15 1 1 3\n16 2 1 5\n17 - 0 0\n"

// rests is code of n ops that are all right.
func rests(n int) []api.Op { return slices.Repeat([]api.Op{{What: api.Rest}}, n) }

// great is a plan with as many rooms, ops, ticks, spans and wires as there may be.
func great() api.Plan {
	p := api.Plan{Ticks: 40}
	for i := range 12 {
		p.Spans = append(p.Spans, api.Span{From: 3 * i, To: 3*i + 3, Room: i % 5})
		p.Wires = append(p.Wires, api.Wire{From: i % 5, To: (i + 1) % 5, Kind: api.Queue, Deep: 1 + i%6})
	}
	for range 5 {
		p.Code = append(p.Code, rests(20))
	}
	return p
}

// wrongPlans is plans that plan.Check refuses, by what it tells.
func wrongPlans() map[api.Errno]api.Plan {
	shape, full, clash, ranged := great(), great(), great(), great()
	shape.Code[0][0] = api.Op{What: api.Send, B: 1}
	full.Code[4] = rests(21)
	clash.Spans[11] = api.Span{From: 2, To: 3}
	ranged.Ticks = 41
	return map[api.Errno]api.Plan{
		api.ErrNone: {}, api.ErrShape: shape, api.ErrFull: full, api.ErrClash: clash, api.ErrRange: ranged,
	}
}

// runs asks for all that Run answers.
func runs(t *testing.T, p api.Plan, n int, answer []api.Event, want api.Errno) {
	t.Helper()
	got, err := Run(p, n)
	if !slices.Equal(got, answer) || plain.Told(err) != want {
		t.Errorf("Run(%v, %d): got %v, %v, want %v, %v", p, n, got, plain.Told(err), answer, want)
	}
}

// picks asks for all that Of answers.
func picks(t *testing.T, l []api.Event, room int, answer []api.Event, want api.Errno) {
	t.Helper()
	got, err := Of(l, room)
	if !slices.Equal(got, answer) || plain.Told(err) != want {
		t.Errorf("Of(%v, %d): got %v, %v, want %v, %v", l, room, got, plain.Told(err), answer, want)
	}
}

// counts asks for all that Counts answers.
func counts(t *testing.T, l []api.Event, answer []int, want api.Errno) {
	t.Helper()
	got, err := Counts(l)
	if !slices.Equal(got, answer) || plain.Told(err) != want {
		t.Errorf("Counts(%v): got %v, %v, want %v, %v", l, got, plain.Told(err), answer, want)
	}
}

// prints asks for all that Print answers.
func prints(t *testing.T, l []api.Event, answer string, want api.Errno) {
	t.Helper()
	got, err := Print(l)
	if got != answer || plain.Told(err) != want {
		t.Errorf("Print(%v): got %q, %v, want %q, %v", l, got, plain.Told(err), answer, want)
	}
}

// parses asks for all that Parse answers.
func parses(t *testing.T, text string, answer []api.Event, want api.Errno) {
	t.Helper()
	got, err := Parse(text)
	if !slices.Equal(got, answer) || plain.Told(err) != want {
		t.Errorf("Parse(%q): got %v, %v, want %v, %v", text, got, plain.Told(err), answer, want)
	}
}

// texts asks that a list is printed as a text, and read from it again.
func texts(t *testing.T, l []api.Event, text string) {
	t.Helper()
	prints(t, l, text, api.OK)
	parses(t, text, l, api.OK)
}

// written is events as a text, by a rule of the tests' own that asks for no bounds.
func written(l []api.Event) string {
	var b strings.Builder
	for _, e := range l {
		room := strconv.Itoa(e.Room)
		if e.Room == -1 {
			room = "-"
		}
		b.WriteString(strconv.Itoa(e.Tick) + " " + room + " " + strconv.Itoa(e.At) + " " + strconv.Itoa(e.What) + "\n")
	}
	return b.String()
}

// readable tells whether an event's line has the form of one, whatever its numbers mean.
func readable(e api.Event) bool {
	const most = 9_999_999
	return 0 <= e.Tick && e.Tick <= most && -1 <= e.Room && e.Room <= most && 0 <= e.At && e.At <= most && 0 <= e.What && e.What <= most
}

// refused asks that Of, whatever the room is, Counts, Print, and Parse of such a text tell one error of events.
func refused(t *testing.T, l []api.Event, want api.Errno) {
	t.Helper()
	for _, room := range []int{math.MinInt, -2, -1, 0, 2, 4, 5, math.MaxInt} {
		picks(t, l, room, nil, want)
	}
	counts(t, l, nil, want)
	prints(t, l, "", want)
	if slices.ContainsFunc(l, func(e api.Event) bool { return !readable(e) }) {
		want = api.ErrSyntax
	}
	parses(t, written(l), nil, want)
}

// taken asks that Of, Counts, Print and Parse all take these events.
func taken(t *testing.T, l []api.Event) {
	t.Helper()
	for room := -1; room < api.MaxRooms; room++ {
		var of []api.Event
		for _, e := range l {
			if e.Room == room {
				of = append(of, e)
			}
		}
		picks(t, l, room, of, api.OK)
	}
	var many [6]int
	for _, e := range l {
		many[e.What]++
	}
	counts(t, l, many[:], api.OK)
	texts(t, l, written(l))
}

// TestT1Run: all that may come of a tick, by hand.
func TestT1Run(t *testing.T) {
	want := busyEvents()
	for n := range len(want) + 1 {
		runs(t, busy(t), n, want[:n], api.OK)
	}
}

// TestT1RunAsTheKernel: as many ticks as may be are those of a new kernel, from its first one on.
func TestT1RunAsTheKernel(t *testing.T) {
	least := api.Plan{Code: [][]api.Op{rests(1)}, Ticks: 1}
	for _, p := range []api.Plan{busy(t), great(), least} {
		k, err := kernel.New(p)
		if err != nil {
			t.Fatal(err)
		}
		var want []api.Event
		for range 2000 {
			want = append(want, k.Tick())
		}
		for _, n := range []int{0, 1, 2, 39, 40, 41, 1999, 2000} {
			runs(t, p, n, want[:n], api.OK)
		}
		taken(t, want)
	}
}

// TestT1RunOfWrongNumbers: n is from 0 to MaxTicks.
func TestT1RunOfWrongNumbers(t *testing.T) {
	for _, n := range []int{math.MinInt, -2000, -2, -1, 2001, 2002, 1_000_000, math.MaxInt} {
		runs(t, busy(t), n, nil, api.ErrRange)
		runs(t, great(), n, nil, api.ErrRange)
	}
}

// TestT1RunChecksFirst: a wrong plan is told ahead of a wrong number, and of no tick too.
func TestT1RunChecksFirst(t *testing.T) {
	for want, p := range wrongPlans() {
		for _, n := range []int{math.MinInt, -1, 0, 1, 2000, 2001, math.MaxInt} {
			runs(t, p, n, nil, want)
		}
	}
}

// TestT1Of: each room's, and nobody's, in the order in which they stand, whatever their ticks are.
func TestT1Of(t *testing.T) {
	l := busyEvents()
	picks(t, l, -1, events(5, -1, 0, 0, 11, -1, 0, 0, 17, -1, 0, 0), api.OK)
	picks(t, l, 0, events(0, 0, 0, 1, 1, 0, 1, 3, 6, 0, 0, 1, 7, 0, 1, 3, 12, 0, 0, 1, 13, 0, 1, 3), api.OK)
	picks(t, l, 1, events(2, 1, 0, 2, 3, 1, 1, 3, 8, 1, 1, 2, 9, 1, 0, 3, 14, 1, 0, 2, 15, 1, 1, 3), api.OK)
	picks(t, l, 2, events(4, 2, 0, 0, 10, 2, 1, 4, 16, 2, 1, 5), api.OK)
	picks(t, l, 3, nil, api.OK)
	picks(t, l, 4, nil, api.OK)
	mixed := events(9, 4, 3, 0, 7, 0, 1, 1, 7, 4, 2, 5, 7, 4, 2, 5, 0, -1, 0, 0, 8, 4, 19, 1)
	picks(t, mixed, 4, events(9, 4, 3, 0, 7, 4, 2, 5, 7, 4, 2, 5, 8, 4, 19, 1), api.OK)
	picks(t, mixed, 0, events(7, 0, 1, 1), api.OK)
	picks(t, mixed, -1, events(0, -1, 0, 0), api.OK)
}

// TestT1OfNoSuchRoom: -1 is nobody, and 4 is the last room there may be.
func TestT1OfNoSuchRoom(t *testing.T) {
	for _, room := range []int{math.MinInt, -3, -2, 5, 6, 1000, math.MaxInt} {
		picks(t, busyEvents(), room, nil, api.ErrRange)
		picks(t, nil, room, nil, api.ErrRange)
	}
}

// TestT1OfIsWrongBehindItsEvents: a room that is none is told behind what is wrong with events.
func TestT1OfIsWrongBehindItsEvents(t *testing.T) {
	for _, room := range []int{-2, 5} {
		picks(t, events(0, -1, 1, 0), room, nil, api.ErrShape)
		picks(t, slices.Repeat(events(0, 0, 0, 0), 2001), room, nil, api.ErrFull)
		picks(t, events(0, 0, 0, 6), room, nil, api.ErrRange)
	}
}

func TestT1Counts(t *testing.T) {
	counts(t, busyEvents(), []int{4, 3, 3, 6, 1, 1}, api.OK)
	for what := range 6 {
		want := make([]int, 6)
		want[what] = 3
		counts(t, slices.Repeat(events(7, 3, 1, what), 3), want, api.OK)
	}
	counts(t, slices.Repeat(events(7, 3, 1, 5), 2000), []int{0, 0, 0, 0, 0, 2000}, api.OK)
}

func TestT1Texts(t *testing.T) {
	texts(t, busyEvents(), busyText)
	texts(t, events(0, -1, 0, 0), "0 - 0 0\n")
	texts(t, events(1_000_000, -1, 0, 0), "1000000 - 0 0\n")
	texts(t, events(1_000_000, 4, 19, 5), "1000000 4 19 5\n")
	texts(t, events(30, 2, 10, 3, 4, 2, 0, 3, 4, 2, 0, 3), "30 2 10 3\n4 2 0 3\n4 2 0 3\n")
}

// TestT1NoEvents: no event is none that is wrong, and an empty text has none.
func TestT1NoEvents(t *testing.T) {
	for _, l := range [][]api.Event{nil, {}} {
		taken(t, l)
		counts(t, l, []int{0, 0, 0, 0, 0, 0}, api.OK)
		prints(t, l, "", api.OK)
	}
	parses(t, "", nil, api.OK)
}

// TestT1Edges: the first and the last of each number that may be, and those beside them.
func TestT1Edges(t *testing.T) {
	for _, tick := range []int{0, 1, 2000, 2001, 999_999, 1_000_000} {
		taken(t, events(tick, 0, 0, 0))
		taken(t, events(tick, -1, 0, 0))
	}
	for room := range 5 {
		for at := range 20 {
			for what := range 6 {
				taken(t, events(3, room, at, what))
			}
		}
	}
	for _, tick := range []int{math.MinInt, -1, 1_000_001, 9_999_999, 10_000_000, math.MaxInt} {
		refused(t, events(tick, 0, 0, 0), api.ErrRange)
		refused(t, events(tick, -1, 0, 0), api.ErrRange)
	}
	for _, room := range []int{math.MinInt, -3, -2, 5, 6, 10, 9_999_999, 10_000_000, math.MaxInt} {
		refused(t, events(0, room, 0, 0), api.ErrRange)
	}
	for _, at := range []int{math.MinInt, -1, 20, 21, 9_999_999, 10_000_000, math.MaxInt} {
		refused(t, events(0, 4, at, 0), api.ErrRange)
		refused(t, events(0, -1, at, 0), api.ErrRange)
	}
	for _, what := range []int{math.MinInt, -1, 6, 7, 9_999_999, 10_000_000, math.MaxInt} {
		refused(t, events(0, 4, 0, what), api.ErrRange)
		refused(t, events(0, -1, 0, what), api.ErrRange)
	}
}

// TestT1NobodyDoesNothing: where no room has the tick, At and What are 0; each by itself may be wrong.
func TestT1NobodyDoesNothing(t *testing.T) {
	for at := range 20 {
		for what := range 6 {
			if at != 0 || what != 0 {
				refused(t, events(7, -1, at, what), api.ErrShape)
			}
		}
	}
	// Of one event ErrRange is told first.
	refused(t, events(1_000_001, -1, 1, 0), api.ErrRange)
	refused(t, events(0, -1, 1, 6), api.ErrRange)
	refused(t, events(0, -1, 20, 1), api.ErrRange)
	refused(t, events(0, -1, -1, 1), api.ErrRange)
	refused(t, events(0, -1, 1, -1), api.ErrRange)
}

// TestT1Full: MaxTicks events may be; one more is told ahead of what is wrong with any of them.
func TestT1Full(t *testing.T) {
	one := events(5, 3, 2, 1)
	taken(t, slices.Repeat(one, 1999))
	taken(t, slices.Repeat(one, 2000))
	for _, n := range []int{2001, 2002, 4000} {
		refused(t, slices.Repeat(one, n), api.ErrFull)
		for _, bad := range []api.Event{{Room: 5}, {Room: -1, At: 1}} {
			for _, i := range []int{0, 1, 1999, 2000, n - 1} {
				l := slices.Repeat(one, n)
				l[i] = bad
				refused(t, l, api.ErrFull)
			}
		}
	}
}

// TestT1FirstThatIsWrong: one by one, wherever it stands; a later one does not matter.
func TestT1FirstThatIsWrong(t *testing.T) {
	good := busyEvents()
	ranged, shaped := api.Event{Tick: 1, Room: 0, At: 0, What: 6}, api.Event{Tick: 1, Room: -1, At: 0, What: 1}
	for i := range good {
		l := slices.Clone(good)
		l[i] = ranged
		refused(t, l, api.ErrRange)
		l[i] = shaped
		refused(t, l, api.ErrShape)
		for j := range i {
			l[i], l[j] = ranged, shaped
			refused(t, l, api.ErrShape)
			l[i], l[j] = shaped, ranged
			refused(t, l, api.ErrRange)
			l[j] = good[j]
		}
	}
	l := slices.Repeat(good[:1], 2000)
	l[1999] = shaped
	refused(t, l, api.ErrShape)
	l[1999] = ranged
	refused(t, l, api.ErrRange)
}

func TestT1ParseOfNoSuchText(t *testing.T) {
	lines := []string{
		"\n", " ", " \n", "-", "-\n", "0\n", "0 0\n", "0 0 0\n", "0 0 0 0", "0 0 0 0 0\n", "0 0 0 0 \n", " 0 0 0 0\n",
		"0  0 0 0\n", "0 0  0 0\n", "0 0 0  0\n", "0 0 0 \n", "0 0  0\n", "0  0 0\n", " 0 0 0\n", "   \n", "0\t0 0 0\n", "0 0 0 0\r\n",
		"00 0 0 0\n", "01 0 0 0\n", "0 00 0 0\n", "0 01 0 0\n", "0 0 00 0\n", "0 0 01 0\n", "0 0 0 00\n", "0 0 0 01\n",
		"-1 0 0 0\n", "0 -1 0 0\n", "0 0 -1 0\n", "0 0 0 -1\n", "-0 0 0 0\n", "0 -0 0 0\n", "+1 0 0 0\n", "0 +1 0 0\n", "0 0 +1 0\n", "0 0 0 +1\n",
		"- 0 0 0\n", "0 0 - 0\n", "0 0 0 -\n", "0 - - -\n", "0 - - 0\n", "0 -- 0 0\n", "- - 0 0\n", "0 -\n", "0 - 0\n", "0 - 0 0", "0 - 0 0 0\n", "0 -  0 0\n", "0 -0 0\n",
		"10000000 0 0 0\n", "0 10000000 0 0\n", "0 0 10000000 0\n", "0 0 0 10000000\n", "99999999999999999999 0 0 0\n", "0 0 0 0001000000\n",
		"x 0 0 0\n", "0 x 0 0\n", "0 0 x 0\n", "0 0 0 x\n", "1_0 0 0 0\n", "0x1 0 0 0\n", "1e1 0 0 0\n", "0 0 0 0x\n", "0 0 0 0\x00\n", "\xff 0 0 0\n", "٣ 0 0 0\n", "rest\n",
	}
	for _, line := range lines {
		parses(t, line, nil, api.ErrSyntax)
		parses(t, busyText+line, nil, api.ErrSyntax)
		if strings.HasSuffix(line, "\n") {
			parses(t, line+busyText, nil, api.ErrSyntax)
		}
	}
	parses(t, "0 0 0 0\n\n", nil, api.ErrSyntax)
	parses(t, "\n0 0 0 0\n", nil, api.ErrSyntax)
	parses(t, "0 0 0 0\n1 0 0 0", nil, api.ErrSyntax)
	parses(t, strings.Repeat(" ", 100_000)+"\n", nil, api.ErrSyntax)
	parses(t, strings.Repeat("1", 100_000)+" 0 0 0\n", nil, api.ErrSyntax)
}

// TestT1ParseTellsSyntaxFirst: wherever a line is that is none, it is told ahead of numbers and of how many there are.
func TestT1ParseTellsSyntaxFirst(t *testing.T) {
	for _, bad := range []string{"9999999 0 0 0\n", "0 5 0 0\n", "0 - 1 0\n", strings.Repeat("0 0 0 0\n", 2001), strings.Repeat("0 0 0 0\n", 5000)} {
		parses(t, bad+"0 0 0\n", nil, api.ErrSyntax)
		parses(t, "0 0 0\n"+bad, nil, api.ErrSyntax)
		parses(t, bad+"0 0 0 0", nil, api.ErrSyntax)
	}
}

// TestT1ParseOfNumbersOfSevenDigits: such numbers can be read, whatever they say.
func TestT1ParseOfNumbersOfSevenDigits(t *testing.T) {
	for _, text := range []string{"9999999 0 0 0\n", "0 9999999 0 0\n", "0 0 9999999 0\n", "0 0 0 9999999\n", "1000001 - 0 0\n", "0 - 9999999 0\n", "0 - 0 9999999\n"} {
		parses(t, text, nil, api.ErrRange)
	}
	parses(t, "1000000 - 0 5\n", nil, api.ErrShape)
}

// TestT1ParseTakesJustWhatIsPrinted: of all that is one byte off, what is taken is printed again as it stands.
func TestT1ParseTakesJustWhatIsPrinted(t *testing.T) {
	const text = "9 0 0 1\n10 - 0 0\n1000000 4 19 5\n"
	again := func(s string) {
		l, err := Parse(s)
		if err != nil {
			if len(l) != 0 || plain.Told(err) < api.ErrRange || plain.Told(err) > api.ErrShape {
				t.Errorf("Parse(%q): got %v, %v", s, l, err)
			}
			return
		}
		prints(t, l, s, api.OK)
	}
	for i := range len(text) + 1 {
		again(text[:i])
		again(text[i:])
		for c := range 256 {
			again(text[:i] + string([]byte{byte(c)}) + text[i:])
			if i < len(text) {
				again(text[:i] + string([]byte{byte(c)}) + text[i+1:])
			}
		}
		if i < len(text) {
			again(text[:i] + text[i+1:])
		}
	}
}

// TestT1AllSmallTexts: all texts of up to eight of these bytes are taken just if they are what is printed.
func TestT1AllSmallTexts(t *testing.T) {
	const bytes = "01- \n"
	right := map[string]int{"": 0}
	for _, l := range small() {
		right[written(l)] = len(l)
	}
	found := 0
	var grow func(text string, more int)
	grow = func(text string, more int) {
		l, err := Parse(text)
		many, ok := right[text]
		if ok {
			found++
		}
		if ok != (err == nil) || ok && len(l) != many {
			t.Errorf("Parse(%q): got %v, %v", text, l, err)
		}
		for i := range len(bytes) {
			if more > 0 {
				grow(text+bytes[i:i+1], more-1)
			}
		}
	}
	grow("", 8)
	if found != len(right) {
		t.Errorf("of %d texts that are right %d were tried", len(right), found)
	}
}

// small is all lists of one event that may be whose text is eight of these bytes; none has fewer, so that no number has two digits.
func small() [][]api.Event {
	out := [][]api.Event{events(0, -1, 0, 0), events(1, -1, 0, 0)}
	for i := range 16 {
		out = append(out, events(i>>3, i>>2&1, i>>1&1, i&1))
	}
	return out
}

// TestP2AnswersAreTheCallers: what came out may be written into, and what went in is not.
func TestP2AnswersAreTheCallers(t *testing.T) {
	p := busy(t)
	first, err := Run(p, 18)
	if err != nil {
		t.Fatal(err)
	}
	spoil(first)
	runs(t, busy(t), 18, busyEvents(), api.OK)
	runs(t, p, 18, busyEvents(), api.OK)

	l := busyEvents()
	for room := -1; room < 5; room++ {
		of, err := Of(l, room)
		if err != nil {
			t.Fatal(err)
		}
		spoil(of)
	}
	// All events are of one room: nothing is left out, and still it is a list of its own.
	same := slices.Repeat(events(1, 2, 3, 0), 4)
	of, _ := Of(same, 2)
	spoil(of)
	picks(t, same, 2, slices.Repeat(events(1, 2, 3, 0), 4), api.OK)

	many, _ := Counts(l)
	for i := range many {
		many[i] = -1
	}
	counts(t, l, []int{4, 3, 3, 6, 1, 1}, api.OK)
	read, _ := Parse(busyText)
	spoil(read)
	texts(t, l, busyText)
	if !slices.Equal(l, busyEvents()) {
		t.Errorf("a list that was handed in is another one now: %v", l)
	}
}

// spoil writes into a list, and behind it as far as its memory goes.
func spoil(l []api.Event) {
	l = l[:cap(l)]
	for i := range l {
		l[i] = api.Event{Tick: -1, Room: -9, At: -9, What: -9}
	}
}

// TestP4BehindAList: what lies behind a list in its memory is neither read nor written.
func TestP4BehindAList(t *testing.T) {
	all := append(busyEvents(), events(-1, 9, 9, 9, -1, 9, 9, 9)...)
	kept := slices.Clone(all)
	l := all[:18]
	for room := -1; room < 5; room++ {
		if of, err := Of(l, room); err != nil {
			t.Errorf("Of(%d): got %v, %v", room, of, err)
		}
	}
	counts(t, l, []int{4, 3, 3, 6, 1, 1}, api.OK)
	prints(t, l, busyText, api.OK)
	picks(t, all[:0], 0, nil, api.OK)
	if !slices.Equal(all, kept) {
		t.Errorf("got %v, want %v", all, kept)
	}
}
