package snap

import (
	"slices"
	"strconv"
	"strings"
	"testing"

	"framekeep/api"
	"framekeep/kernel"
	"framekeep/plain"
	"framekeep/plan"
)

// parsed is the plan of a text.
func parsed(t *testing.T, text string) api.Plan {
	t.Helper()
	p, err := plan.Parse(text)
	if err != nil {
		t.Fatalf("Parse(%q): got %v", text, err)
	}
	return p
}

// made is a new kernel of a plan, so many ticks on.
func made(t *testing.T, p api.Plan, ticks int) *kernel.Kernel {
	t.Helper()
	k, err := kernel.New(p)
	if err != nil {
		t.Fatalf("New(%v): got %v", p, err)
	}
	for range ticks {
		k.Tick()
	}
	return k
}

// saves asks for all that Save answers, twice: it changes nothing.
func saves(t *testing.T, k *kernel.Kernel, p api.Plan, text string, want api.Errno) {
	t.Helper()
	for range 2 {
		got, err := Save(k, p)
		if got != text || plain.Told(err) != want {
			t.Errorf("Save of %v: got %q, %v, want %q, %v", p, got, plain.Told(err), text, want)
		}
	}
}

// loaded is the kernel of a text that may be; Save answers that text again.
func loaded(t *testing.T, p api.Plan, text string) *kernel.Kernel {
	t.Helper()
	k, err := Load(p, text)
	if k == nil || err != nil {
		t.Fatalf("Load(%v, %q): got %v, %v", p, text, k, plain.Told(err))
	}
	saves(t, k, p, text, api.OK)
	return k
}

// refused asks for an error of Load, and that there is no kernel.
func refused(t *testing.T, p api.Plan, text string, want api.Errno) {
	t.Helper()
	k, err := Load(p, text)
	if k != nil || plain.Told(err) != want {
		t.Errorf("Load(%v, %q): got %v, %v, want %v", p, text, k, plain.Told(err), want)
	}
}

// ticks asks for the events of the next ticks.
func ticks(t *testing.T, k *kernel.Kernel, want ...api.Event) {
	t.Helper()
	for _, e := range want {
		if got := k.Tick(); got != e {
			t.Errorf("Tick: got %v, want %v", got, e)
		}
	}
}

// rests is code of n ops that are all right.
func rests(n int) []api.Op { return slices.Repeat([]api.Op{{What: api.Rest}}, n) }

// great is a plan with as many rooms, ops, ticks, spans and wires as there may be.
func great() api.Plan {
	p := api.Plan{Ticks: 40}
	for i := range 12 {
		p.Spans = append(p.Spans, api.Span{From: 3 * i, To: 3*i + 3, Room: i % 5})
		p.Wires = append(p.Wires, api.Wire{From: i % 5, To: (i + 1) % 5, Kind: api.Queue, Deep: 1 + i%6})
	}
	for range 5 {
		p.Code = append(p.Code, rests(20))
	}
	return p
}

// least is a plan with as little as there may be: room 0 alone, at its one op, without a tick.
func least() api.Plan { return api.Plan{Code: [][]api.Op{rests(1)}, Ticks: 1} }

// wrongPlans is plans that plan.Check refuses, by what it tells.
func wrongPlans() map[api.Errno]api.Plan {
	shape, full, clash, ranged := great(), great(), great(), great()
	shape.Code[0][0] = api.Op{What: api.Send, B: 1}
	full.Code[4] = rests(21)
	clash.Spans[11] = api.Span{From: 2, To: 3}
	ranged.Ticks = 41
	return map[api.Errno]api.Plan{
		api.ErrNone: {}, api.ErrShape: shape, api.ErrFull: full, api.ErrClash: clash, api.ErrRange: ranged,
	}
}

// busy is a plan of two rooms that send to each other: one fails, and what it would take is lost then.
func busy(t *testing.T) api.Plan {
	t.Helper()
	return parsed(t, "frame 4\nspan 0 2 0\nspan 2 3 1\nwire 0 1 2 2\nwire 1 0 1 1\n"+
		"room\nset 0 7\nsend 0 0\nadd 0 0\njump 1\nroom\ntake 5 0\nsend 5 1\nfail\n")
}

// busyTexts is a kernel of it ahead of some of its ticks, by hand.
func busyTexts() map[int]string {
	return map[int]string{
		0:  "time 0\nroom 0 0 0 0 0 0 0 0\nroom 0 0 0 0 0 0 0 0\nwire 0\nwire 0\n",
		1:  "time 1\nroom 1 7 0 0 0 0 0 0\nroom 0 0 0 0 0 0 0 0\nwire 0\nwire 0\n",
		2:  "time 2\nroom 2 7 0 0 0 0 0 0\nroom 0 0 0 0 0 0 0 0\nwire 0 7\nwire 0\n",
		3:  "time 3\nroom 2 7 0 0 0 0 0 0\nroom 1 0 0 0 0 0 7 0\nwire 0\nwire 0\n",
		4:  "time 4\nroom 2 7 0 0 0 0 0 0\nroom 1 0 0 0 0 0 7 0\nwire 0\nwire 0\n",
		5:  "time 5\nroom 3 14 0 0 0 0 0 0\nroom 1 0 0 0 0 0 7 0\nwire 0\nwire 0\n",
		7:  "time 7\nroom 1 14 0 0 0 0 0 0\nroom 2 0 0 0 0 0 7 0\nwire 0\nwire 0 7\n",
		9:  "time 9\nroom 2 14 0 0 0 0 0 0\nroom 2 0 0 0 0 0 7 0\nwire 0 14\nwire 0 7\n",
		11: "time 11\nroom 3 28 0 0 0 0 0 0\nroom 2 0 0 0 0 0 7 1\nwire 0 14\nwire 0 7\n",
		14: "time 14\nroom 2 28 0 0 0 0 0 0\nroom 2 0 0 0 0 0 7 1\nwire 0 14 28\nwire 0 7\n",
		21: "time 21\nroom 2 56 0 0 0 0 0 0\nroom 2 0 0 0 0 0 7 1\nwire 1 14 28\nwire 0 7\n",
		30: "time 30\nroom 1 224 0 0 0 0 0 0\nroom 2 0 0 0 0 0 7 1\nwire 2 14 28\nwire 0 7\n",
		33: "time 33\nroom 2 224 0 0 0 0 0 0\nroom 2 0 0 0 0 0 7 1\nwire 3 14 28\nwire 0 7\n",
	}
}

// busyText is a text of that plan; each of its numbers can be told from its neighbours.
const busyText = "time 34\nroom 3 11 0 999 14 15 16 0\nroom 0 21 22 23 24 25 26 0\nwire 31 998 33\nwire 0 41\n"

// TestS1ByHand: what is saved at each time, and that it is loaded from there.
func TestS1ByHand(t *testing.T) {
	p := busy(t)
	for n, text := range busyTexts() {
		saves(t, made(t, p, n), p, text, api.OK)
		loaded(t, p, text)
	}
	saves(t, made(t, least(), 0), least(), "time 0\nroom 0 0 0 0 0 0 0 0\n", api.OK)
	saves(t, made(t, great(), 100), great(), "time 100\n"+
		"room 4 0 0 0 0 0 0 0\nroom 3 0 0 0 0 0 0 0\nroom 15 0 0 0 0 0 0 0\nroom 15 0 0 0 0 0 0 0\nroom 15 0 0 0 0 0 0 0\n"+
		strings.Repeat("wire 0\n", 12), api.OK)
}

// TestS1GoesOnByHand: each number of a text stands in the kernel where it is named, and it goes on from there.
func TestS1GoesOnByHand(t *testing.T) {
	p := busy(t)
	k := loaded(t, p, busyText)
	if k.Time() != 34 {
		t.Errorf("Time: got %d", k.Time())
	}
	for i, want := range []api.State{{At: 3, Cells: [6]int{11, 0, 999, 14, 15, 16}}, {At: 0, Cells: [6]int{21, 22, 23, 24, 25, 26}}} {
		if got, err := k.State(i); got != want || err != nil {
			t.Errorf("State(%d): got %v, %v, want %v", i, got, err, want)
		}
	}
	for i, want := range []api.Held{{Items: []int{998, 33}, Lost: 31}, {Items: []int{41}}} {
		if got, err := k.Wire(i); !slices.Equal(got.Items, want.Items) || got.Lost != want.Lost || err != nil {
			t.Errorf("Wire(%d): got %v, %v, want %v", i, got, err, want)
		}
	}
	ticks(t, k, api.Event{Tick: 34, Room: 1, At: 0, What: 2}, api.Event{Tick: 35, Room: -1},
		api.Event{Tick: 36, Room: 0, At: 3}, api.Event{Tick: 37, Room: 0, At: 1, What: 1},
		api.Event{Tick: 38, Room: 1, At: 1, What: 1}, api.Event{Tick: 39, Room: -1},
		api.Event{Tick: 40, Room: 0, At: 2}, api.Event{Tick: 41, Room: 0, At: 3},
		api.Event{Tick: 42, Room: 1, At: 2, What: 4}, api.Event{Tick: 43, Room: -1},
		api.Event{Tick: 44, Room: 0, At: 1, What: 3})
	saves(t, k, p, "time 45\nroom 2 22 0 999 14 15 16 0\nroom 2 21 22 23 24 25 998 1\nwire 32 33 11\nwire 0 998\n", api.OK)
}

// TestS1FailedAtAnyOp: who has failed stays so, wherever it stands.
func TestS1FailedAtAnyOp(t *testing.T) {
	p := busy(t)
	for at := range 4 {
		k := loaded(t, p, "time 0\nroom "+strconv.Itoa(at)+" 5 0 0 0 0 0 1\nroom 0 0 0 0 0 0 0 0\nwire 0\nwire 0\n")
		ticks(t, k, api.Event{At: at, What: 5}, api.Event{Tick: 1, At: at, What: 5}, api.Event{Tick: 2, Room: 1, What: 3})
		saves(t, k, p, "time 3\nroom "+strconv.Itoa(at)+" 5 0 0 0 0 0 1\nroom 0 0 0 0 0 0 0 0\nwire 0\nwire 0\n", api.OK)
	}
}

// TestS1SaveOfWrongPlans: a wrong plan is told ahead of all else, whichever the kernel is, or none.
func TestS1SaveOfWrongPlans(t *testing.T) {
	for want, p := range wrongPlans() {
		for _, k := range []*kernel.Kernel{nil, {}, made(t, least(), 3), made(t, great(), 3), made(t, busy(t), 3)} {
			saves(t, k, p, "", want)
		}
	}
}

// TestS1SaveOfOtherKernels: there are to be as many rooms, and as many wires; all else may be of another plan.
func TestS1SaveOfOtherKernels(t *testing.T) {
	of := func(rooms, wires int) api.Plan {
		p := great()
		p.Spans, p.Code, p.Wires = nil, p.Code[:rooms], nil
		for range wires {
			p.Wires = append(p.Wires, api.Wire{From: 0, To: 1, Kind: api.Sample, Deep: 1})
		}
		return p
	}
	var plans []api.Plan
	for rooms := 1; rooms <= 5; rooms++ {
		for wires := range 13 {
			if rooms > 1 || wires == 0 {
				plans = append(plans, of(rooms, wires))
			}
		}
	}
	for _, a := range plans {
		k := made(t, a, 9)
		for _, p := range plans {
			text, want := "", api.ErrShape
			if len(p.Code) == len(a.Code) && len(p.Wires) == len(a.Wires) {
				text, want = "time 9\n"+strings.Repeat("room 0 0 0 0 0 0 0 0\n", len(p.Code))+strings.Repeat("wire 0\n", len(p.Wires)), api.OK
			}
			saves(t, k, p, text, want)
		}
	}
	for _, p := range plans {
		saves(t, nil, p, "", api.ErrShape)
		saves(t, &kernel.Kernel{}, p, "", api.ErrShape)
	}
	// A kernel is saved as it is, even if the plan could not have it so.
	q := busy(t)
	q.Wires[0] = api.Wire{From: 0, To: 1, Kind: api.Sample, Deep: 1}
	q.Code[0] = rests(1)
	q.Code[0][0] = api.Op{What: api.Send}
	saves(t, made(t, busy(t), 21), q, busyTexts()[21], api.OK)
	refused(t, q, busyTexts()[21], api.ErrRange)
}

// TestS1LoadOfWrongPlans: a wrong plan is told ahead of all that is wrong with a text.
func TestS1LoadOfWrongPlans(t *testing.T) {
	for want, p := range wrongPlans() {
		for _, text := range []string{"", "time 0\n", "no\n", busyText, "time 0\nroom 20 0 0 0 0 0 0 0\n"} {
			refused(t, p, text, want)
		}
	}
}

// TestS1AllRowsOfLines: of all rows of up to six lines just that one is taken that has the time, two rooms and a wire.
func TestS1AllRowsOfLines(t *testing.T) {
	p := busy(t)
	p.Code[1], p.Wires = rests(1), p.Wires[:1]
	lines := []string{"time 5\n", "room 1 2 3 4 5 6 7 0\n", "room 0 0 0 0 0 0 0 1\n", "wire 9 8\n", "rest\n", "\n"}
	taken := 0
	var grow func(text string, row []int)
	grow = func(text string, row []int) {
		form := len(row) == 4 && row[0] == 0 && (row[1] == 1 || row[1] == 2) && (row[2] == 1 || row[2] == 2) && row[3] == 3
		switch {
		case form && row[2] == 1: // room 1 has one op
			refused(t, p, text, api.ErrRange)
		case form:
			loaded(t, p, text)
			taken++
		default:
			refused(t, p, text, api.ErrSyntax)
		}
		for i, line := range lines {
			if len(row) < 6 {
				grow(text+line, append(slices.Clone(row), i))
			}
		}
	}
	grow("", nil)
	if taken != 2 {
		t.Errorf("%d texts were taken", taken)
	}
}

// wrongLines is lines that are none, by the word in the place of which they stand.
func wrongLines() map[string][]string {
	return map[string][]string{
		"time": {
			"time\n", "time \n", "time  0\n", "time 0 \n", " time 0\n", "time 0 0\n", "time 00\n", "time 01\n", "time -1\n", "time -0\n", "time +1\n",
			"time 10000000\n", "time 99999999999999999999\n", "time 0000000\n", "time x\n", "time 1_0\n", "time 0x1\n", "time 1e1\n", "time ٣\n", "time 0\r\n",
			"time\t0\n", "Time 0\n", "times 0\n", "tim 0\n", "0\n", "\n", " \n", "time 0\n\n", "\ntime 0\n", "time 0\x00\n", "time 0\ntime 0\n", "wire 0\n",
		},
		"room": {
			"room\n", "room \n", "room 0\n", "room 0 0 0 0 0 0 0\n", "room 0 0 0 0 0 0 0 0 0\n", "room 0 0 0 0 0 0 0 0 \n", " room 0 0 0 0 0 0 0 0\n",
			"room  0 0 0 0 0 0 0 0\n", "room 0 0 0 0  0 0 0 0\n", "room 0 0 0 0 0 0 0  0\n", "room 0 0 0 0 0 0 0 \n", "room 0 0 0 0 0 0 0 2\n", "room 0 0 0 0 0 0 0 10\n",
			"room 0 0 0 0 0 0 0 9999999\n", "room 0 0 0 0 0 0 0 -1\n", "room 0 0 0 0 0 0 0 01\n", "room 0 0 0 0 0 0 0 00\n", "room 0 0 0 0 0 0 0 x\n", "room 0 0 0 0 0 0 0 true\n",
			"room -1 0 0 0 0 0 0 0\n", "room 00 0 0 0 0 0 0 0\n", "room 10000000 0 0 0 0 0 0 0\n", "room 0 10000000 0 0 0 0 0 0\n", "room 0 0 0 0 0 0 10000000 0\n",
			"room 0 -1 0 0 0 0 0 0\n", "room 0 0 0 0 0 0 -1 0\n", "room 0 01 0 0 0 0 0 0\n", "room 0 0 0 0 0 0 0x 0\n", "room 0 0 0 0 0 0 0 0\n\n", "rooms 0 0 0 0 0 0 0 0\n",
			"Room 0 0 0 0 0 0 0 0\n", "0 0 0 0 0 0 0 0\n", "room 0 0 0 0 0 0 0 0\nrest\n", "rest\n", "\n", "room 0 0 0 0 0 0 0 0\r\n", "room 0 0 0 0 0 0 0 0\x00\n",
		},
		"wire": {
			"wire\n", "wire \n", "wire  0\n", "wire 0 \n", " wire 0\n", "wire 0  1\n", "wire 0 1 \n", "wire -\n", "wire -1\n", "wire 00\n", "wire 01\n", "wire 10000000\n",
			"wire 0 -1\n", "wire 0 00\n", "wire 0 01\n", "wire 0 10000000\n", "wire 0 1 10000000\n", "wire 0 x\n", "wire x\n", "wire 0 1 x\n", "wire 0\t1\n", "wire 0,1\n",
			"wires 0\n", "Wire 0\n", "wire 0 0 0 0 0 0 0 x\n", "0\n", "\n", "wire 0\n\n", "wire 0\nwire 0\n", "time 0\n",
		},
	}
}

// TestS1LoadOfNoSuchText: each line by itself in the place of one that is right.
func TestS1LoadOfNoSuchText(t *testing.T) {
	p := busy(t)
	right := slices.Collect(strings.Lines(busyText))
	for i, line := range right {
		word, _, _ := strings.Cut(line, " ")
		for _, wrong := range wrongLines()[word] {
			l := slices.Clone(right)
			l[i] = wrong
			refused(t, p, strings.Join(l, ""), api.ErrSyntax)
		}
		l := slices.Clone(right)
		l[i] = strings.TrimSuffix(line, "\n")
		refused(t, p, strings.Join(l, ""), api.ErrSyntax)
		refused(t, p, strings.Join(slices.Delete(slices.Clone(right), i, i+1), ""), api.ErrSyntax)
		refused(t, p, strings.Join(slices.Insert(slices.Clone(right), i, line), ""), api.ErrSyntax)
		refused(t, p, strings.Join(right[:i], ""), api.ErrSyntax)
		if i > 0 && right[i][:4] != right[i-1][:4] {
			l = slices.Clone(right)
			l[i], l[i-1] = l[i-1], l[i]
			refused(t, p, strings.Join(l, ""), api.ErrSyntax)
		}
	}
	for _, behind := range []string{"\n", " ", "x", "x\n", "time 0\n", "room 0 0 0 0 0 0 0 0\n", "wire 0\n", busyText} {
		refused(t, p, busyText+behind, api.ErrSyntax)
	}
	for _, long := range []string{strings.Repeat("\n", 100_000), strings.Repeat(" ", 100_000) + "\n", "time " + strings.Repeat("1", 100_000) + "\n", "time" + strings.Repeat(" 1", 100_000) + "\n"} {
		refused(t, p, long, api.ErrSyntax)
		refused(t, p, busyText+long, api.ErrSyntax)
	}
	refused(t, p, strings.Repeat(busyText, 1000), api.ErrSyntax)
}

// TestS1AsManyAsThePlan: texts of more or fewer rooms or wires than the plan has.
func TestS1AsManyAsThePlan(t *testing.T) {
	text := func(rooms, wires int) string {
		return "time 0\n" + strings.Repeat("room 0 0 0 0 0 0 0 0\n", rooms) + strings.Repeat("wire 0\n", wires)
	}
	for rooms := range 8 {
		for wires := range 15 {
			if rooms == 5 && wires == 12 {
				loaded(t, great(), text(rooms, wires))
			} else {
				refused(t, great(), text(rooms, wires), api.ErrSyntax)
			}
			if rooms == 1 && wires == 0 {
				loaded(t, least(), text(rooms, wires))
			} else {
				refused(t, least(), text(rooms, wires), api.ErrSyntax)
			}
		}
	}
}

// with is busyText with another line in the place of one.
func with(i int, line string) string {
	l := slices.Collect(strings.Lines(busyText))
	l[i] = line
	return strings.Join(l, "")
}

// TestS1SyntaxFirst: a line that is none is told ahead of numbers that may not be so, wherever both are.
func TestS1SyntaxFirst(t *testing.T) {
	p := busy(t)
	for _, ranged := range []string{with(1, "room 4 0 0 0 0 0 0 0\n"), with(2, "room 0 1000 0 0 0 0 0 0\n"), with(3, "wire 0 1 2 3\n"), with(4, "wire 1\n")} {
		refused(t, p, ranged, api.ErrRange)
		refused(t, p, ranged+"wire 0\n", api.ErrSyntax)
		refused(t, p, ranged+"\n", api.ErrSyntax)
		refused(t, p, strings.TrimSuffix(ranged, "\n"), api.ErrSyntax)
		refused(t, p, strings.Replace(ranged, "time 34", "time 034", 1), api.ErrSyntax)
		refused(t, p, " "+ranged, api.ErrSyntax)
		_, behind, _ := strings.Cut(ranged, "\n")
		refused(t, p, behind, api.ErrSyntax)
	}
}

// TestS1Times: all of at most seven digits may be, and it goes on from there.
func TestS1Times(t *testing.T) {
	p := busy(t)
	for _, n := range []int{0, 1, 3, 4, 9, 10, 2000, 2001, 999_999, 1_000_000, 1_000_001, 9_999_998, 9_999_999} {
		k := loaded(t, p, with(0, "time "+strconv.Itoa(n)+"\n"))
		if e := k.Tick(); e.Tick != n || e.Room != []int{0, 0, 1, -1}[n%4] || k.Time() != n+1 {
			t.Errorf("Tick at %d: got %v, then it is %d", n, e, k.Time())
		}
	}
	// Save has no bound of its own: it tells each time as it is.
	k := loaded(t, least(), "time 9999999\nroom 0 1 2 3 4 5 6 0\n")
	k.Tick()
	saves(t, k, least(), "time 10000000\nroom 0 1 2 3 4 5 6 0\n", api.OK)
	refused(t, least(), "time 10000000\nroom 0 1 2 3 4 5 6 0\n", api.ErrSyntax)
}

// TestS1Places: At is a place of an op of just that room's code, of each length.
func TestS1Places(t *testing.T) {
	for length := 1; length <= 20; length++ {
		p := api.Plan{Ticks: 1, Code: [][]api.Op{rests(20), rests(length), rests(1)}}
		text := func(at int, failed string) string {
			return "time 0\nroom 19 0 0 0 0 0 0 0\nroom " + strconv.Itoa(at) + " 0 0 0 0 0 0 " + failed + "\nroom 0 0 0 0 0 0 0 0\n"
		}
		for _, failed := range []string{"0", "1"} {
			for at := range length {
				loaded(t, p, text(at, failed))
			}
			for _, at := range []int{length, length + 1, 21, 100, 9_999_999} {
				refused(t, p, text(at, failed), api.ErrRange)
			}
		}
	}
}

// TestS1Cells: each cell of each room is from 0 to below Modulo.
func TestS1Cells(t *testing.T) {
	p := great()
	for room := range 5 {
		for cell := range 6 {
			for _, n := range []int{0, 1, 998, 999, 1000, 1001, 9999, 9_999_999} {
				numbers := [8]int{1, 10, 20, 30, 40, 50, 60, 0}
				numbers[1+cell] = n
				text := "time 8\n"
				for i := range 5 {
					text += "room"
					for j, m := range numbers {
						if i != room {
							m = (i + j) % 2
						}
						text += " " + strconv.Itoa(m)
					}
					text += "\n"
				}
				text += strings.Repeat("wire 0\n", 12)
				if n >= 1000 {
					refused(t, p, text, api.ErrRange)
				} else if s, err := loaded(t, p, text).State(room); s.Cells[cell] != n || err != nil {
					t.Errorf("cell %d of room %d: got %v, %v, want %d", cell, room, s, err, n)
				}
			}
		}
	}
}

// TestS1HowMany: a wire holds no more than it is deep, be it one of many, and of a sample nothing is lost.
func TestS1HowMany(t *testing.T) {
	kinds := []api.Wire{{Kind: api.Sample, Deep: 1}}
	for deep := 1; deep <= 6; deep++ {
		kinds = append(kinds, api.Wire{Kind: api.Queue, Deep: deep})
	}
	for _, w := range kinds {
		w.To = 1
		p := api.Plan{Ticks: 1, Code: [][]api.Op{rests(1), rests(1)}, Wires: []api.Wire{{To: 1, Kind: api.Queue, Deep: 6}, w, {From: 1, Kind: api.Sample, Deep: 1}}}
		for _, lost := range []int{0, 1, 2, 1000, 9_999_999} {
			for many := range 10 {
				line := "wire " + strconv.Itoa(lost)
				for i := range many {
					line += " " + strconv.Itoa(999-i)
				}
				text := "time 0\n" + strings.Repeat("room 0 0 0 0 0 0 0 0\n", 2) + "wire 3 1 2 3 4 5 6\n" + line + "\nwire 0 9\n"
				if many > w.Deep || w.Kind == api.Sample && lost > 0 {
					refused(t, p, text, api.ErrRange)
				} else {
					loaded(t, p, text)
				}
			}
		}
	}
	refused(t, busy(t), with(3, "wire 0"+strings.Repeat(" 5", 100_000)+"\n"), api.ErrRange)
}

// TestS1Items: what a wire holds is from 0 to below Modulo, at each place.
func TestS1Items(t *testing.T) {
	code := [][]api.Op{rests(1), rests(1)}
	sample := api.Plan{Ticks: 1, Code: code, Wires: []api.Wire{{To: 1, Kind: api.Sample, Deep: 1}}}
	queue := api.Plan{Ticks: 1, Code: code, Wires: []api.Wire{{To: 1, Kind: api.Queue, Deep: 6}}}
	try := func(p api.Plan, n int, items ...string) {
		t.Helper()
		text := "time 0\n" + strings.Repeat("room 0 0 0 0 0 0 0 0\n", 2) + "wire 0 " + strings.Join(items, " ") + "\n"
		if n >= 1000 {
			refused(t, p, text, api.ErrRange)
		} else {
			loaded(t, p, text)
		}
	}
	for _, n := range []int{0, 1, 999, 1000, 1001, 9999, 9_999_999} {
		try(sample, n, strconv.Itoa(n))
		for i := range 6 {
			items := []string{"0", "999", "5", "5", "0", "1"}
			items[i] = strconv.Itoa(n)
			try(queue, n, items...)
			try(queue, n, items[:i+1]...)
		}
	}
}

// TestS1AreKeptAsTheyGoOn: a queue that was loaded is full when it has as many as it is deep, and a sample gives way.
func TestS1AreKeptAsTheyGoOn(t *testing.T) {
	p := parsed(t, "frame 1\nspan 0 1 0\nwire 0 1 2 3\nwire 0 1 1 1\nroom\nsend 0 0\nsend 1 1\nroom\nrest\n")
	k := loaded(t, p, "time 7\nroom 0 5 6 0 0 0 0 0\nroom 0 0 0 0 0 0 0 0\nwire 4 1 2\nwire 0 9\n")
	ticks(t, k, api.Event{Tick: 7, What: 1}, api.Event{Tick: 8, At: 1, What: 1}, api.Event{Tick: 9, What: 3}, api.Event{Tick: 10, At: 1, What: 1})
	saves(t, k, p, "time 11\nroom 0 5 6 0 0 0 0 0\nroom 0 0 0 0 0 0 0 0\nwire 5 1 2 5\nwire 0 6\n", api.OK)
}

// TestS1LoadTakesJustWhatIsSaved: of all that is one byte off, what is taken is saved again as it stands.
func TestS1LoadTakesJustWhatIsSaved(t *testing.T) {
	p := busy(t)
	taken := 0
	again := func(text string) {
		k, err := Load(p, text)
		if err == nil {
			saves(t, k, p, text, api.OK)
			taken++
		} else if told := plain.Told(err); k != nil || told != api.ErrRange && told != api.ErrSyntax {
			t.Errorf("Load(%q): got %v, %v", text, k, told)
		}
	}
	for i := range len(busyText) + 1 {
		again(busyText[:i])
		again(busyText[i:])
		for c := range 256 {
			again(busyText[:i] + string([]byte{byte(c)}) + busyText[i:])
			if i < len(busyText) {
				again(busyText[:i] + string([]byte{byte(c)}) + busyText[i+1:])
			}
		}
		if i < len(busyText) {
			again(busyText[:i] + busyText[i+1:])
		}
	}
	if taken < 300 {
		t.Errorf("%d texts were taken only", taken)
	}
}

// TestP2KernelsAreApart: of two of one text neither changes the other one, nor does one that was saved change one that was loaded.
func TestP2KernelsAreApart(t *testing.T) {
	p := busy(t)
	first := loaded(t, p, busyText)
	text, _ := Save(first, p)
	second := loaded(t, p, text)
	for range 30 {
		first.Tick()
	}
	if err := first.Poke(1, 2, 3); err != nil {
		t.Fatal(err)
	}
	saves(t, second, p, busyText, api.OK)
	loaded(t, p, busyText)
}

// TestP2PlanIsTheCallers: neither call writes into a plan, nor behind its lists; and whoever changes the plan later changes no kernel.
func TestP2PlanIsTheCallers(t *testing.T) {
	p, right := busy(t), busy(t)
	p.Code = append(make([][]api.Op, 0, 9), p.Code...)
	p.Spans = append(make([]api.Span, 0, 9), p.Spans...)
	p.Wires = append(make([]api.Wire, 0, 9), p.Wires...)
	p.Code[0] = append(make([]api.Op, 0, 9), p.Code[0]...)
	k, other := loaded(t, p, busyText), loaded(t, right, busyText)
	got, err := plan.Print(p)
	if want, _ := plan.Print(right); got != want || err != nil {
		t.Errorf("the plan is %q, %v now", got, err)
	}
	if p.Code[:3][2] != nil || p.Spans[:3][2] != (api.Span{}) || p.Wires[:3][2] != (api.Wire{}) || p.Code[0][:5][4] != (api.Op{}) {
		t.Errorf("behind the lists of the plan: %v", p)
	}
	clear(p.Code[0])
	clear(p.Code)
	clear(p.Spans)
	clear(p.Wires)
	for range 40 {
		if a, b := k.Tick(), other.Tick(); a != b {
			t.Errorf("Tick: got %v, want %v", a, b)
		}
	}
}
