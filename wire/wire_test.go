package wire

import (
	"math"
	"slices"
	"testing"

	"framekeep/api"
	"framekeep/plain"
)

// cord is a wire between two rooms that may be.
func cord(kind, deep int) api.Wire { return api.Wire{From: 3, To: 1, Kind: kind, Deep: deep} }

// laid makes a line that may be.
func laid(t *testing.T, kind, deep int) *Line {
	t.Helper()
	l, err := New(cord(kind, deep))
	if l == nil || err != nil {
		t.Fatalf("New(%v): got %v, %v", cord(kind, deep), l, err)
	}
	return l
}

// checked asks for all that Check and New answer.
func checked(t *testing.T, w api.Wire, want api.Errno) {
	t.Helper()
	if err := Check(w); plain.Told(err) != want {
		t.Errorf("Check(%v): got %v, want %v", w, plain.Told(err), want)
	}
	l, err := New(w)
	if (l != nil) != (want == api.OK) || plain.Told(err) != want {
		t.Errorf("New(%v): got %v, %v, want %v", w, l, plain.Told(err), want)
	}
}

// sent asks for all that Send answers.
func sent(t *testing.T, l *Line, n int, is bool, want api.Errno) {
	t.Helper()
	got, err := l.Send(n)
	if got != is || plain.Told(err) != want {
		t.Errorf("Send(%d): got %v, %v, want %v, %v", n, got, plain.Told(err), is, want)
	}
}

// taken asks for all that Take answers.
func taken(t *testing.T, l *Line, n int, want api.Errno) {
	t.Helper()
	got, err := l.Take()
	if got != n || plain.Told(err) != want {
		t.Errorf("Take: got %d, %v, want %d, %v", got, plain.Told(err), n, want)
	}
}

// holds asks for all that Held and Peek answer, twice: neither changes anything.
func holds(t *testing.T, l *Line, lost int, items ...int) {
	t.Helper()
	for range 2 {
		h := l.Held()
		if !slices.Equal(h.Items, items) || h.Lost != lost {
			t.Errorf("Held: got %v, want %v, %d", h, items, lost)
		}
		first := 0
		if len(items) > 0 {
			first = items[0]
		}
		n, is := l.Peek()
		if n != first || is != (len(items) > 0) {
			t.Errorf("Peek: got %d, %v of %v", n, is, items)
		}
	}
}

// TestW1CheckOfEachNumber: all wires of numbers from edge to edge; ErrRange is ahead of ErrShape.
func TestW1CheckOfEachNumber(t *testing.T) {
	rooms := []int{math.MinInt, -1, 0, 1, 3, 4, 5, 6, math.MaxInt}
	kinds := []int{math.MinInt, -1, 0, api.Sample, api.Queue, 3, math.MaxInt}
	deeps := []int{math.MinInt, -6, -1, 0, 1, 2, 5, 6, 7, math.MaxInt}
	for _, from := range rooms {
		for _, to := range rooms {
			for _, kind := range kinds {
				for _, deep := range deeps {
					want := api.OK
					switch {
					case from < 0 || from > 4 || to < 0 || to > 4:
						want = api.ErrRange
					case !(kind == 1 && deep == 1 || kind == 2 && 1 <= deep && deep <= 6):
						want = api.ErrRange
					case from == to:
						want = api.ErrShape
					}
					checked(t, api.Wire{From: from, To: to, Kind: kind, Deep: deep}, want)
				}
			}
		}
	}
}

func TestW1CheckByHand(t *testing.T) {
	cases := []struct {
		w    api.Wire
		want api.Errno
	}{
		{api.Wire{}, api.ErrRange},
		{api.Wire{From: 0, To: 4, Kind: api.Sample, Deep: 1}, api.OK},
		{api.Wire{From: 4, To: 0, Kind: api.Queue, Deep: 6}, api.OK},
		{api.Wire{From: 4, To: 0, Kind: api.Queue, Deep: 7}, api.ErrRange},
		{api.Wire{From: 4, To: 0, Kind: api.Sample, Deep: 2}, api.ErrRange},
		{api.Wire{From: 4, To: 0, Kind: api.Sample, Deep: 0}, api.ErrRange},
		{api.Wire{From: 5, To: 0, Kind: api.Queue, Deep: 1}, api.ErrRange},
		{api.Wire{From: 0, To: 5, Kind: api.Queue, Deep: 1}, api.ErrRange},
		{api.Wire{From: 2, To: 2, Kind: api.Queue, Deep: 1}, api.ErrShape},
		{api.Wire{From: 2, To: 2, Kind: api.Sample, Deep: 1}, api.ErrShape},
		{api.Wire{From: 2, To: 2, Kind: api.Sample, Deep: 2}, api.ErrRange},
		{api.Wire{From: 5, To: 5, Kind: api.Sample, Deep: 1}, api.ErrRange},
	}
	for _, c := range cases {
		checked(t, c.w, c.want)
	}
}

// TestW1OfNewLines: nothing is there, and nothing was lost, however often it is asked.
func TestW1OfNewLines(t *testing.T) {
	lines := []*Line{laid(t, api.Sample, 1)}
	for deep := 1; deep <= 6; deep++ {
		lines = append(lines, laid(t, api.Queue, deep))
	}
	for _, l := range lines {
		for range 3 {
			holds(t, l, 0)
			taken(t, l, 0, api.ErrNone)
		}
		sent(t, l, 5, true, api.OK)
		holds(t, l, 0, 5)
	}
}

func TestW1Sample(t *testing.T) {
	l := laid(t, api.Sample, 1)
	for _, n := range []int{7, 0, 999, 999, 1} {
		sent(t, l, n, true, api.OK)
		holds(t, l, 0, n)
		for range 3 {
			taken(t, l, n, api.OK)
			holds(t, l, 0, n)
		}
	}
	for n := range api.Modulo {
		sent(t, l, n, true, api.OK)
	}
	holds(t, l, 0, 999)
}

func TestW1QueueOfEachDepth(t *testing.T) {
	for deep := 1; deep <= 6; deep++ {
		l := laid(t, api.Queue, deep)
		var items []int
		for n := range deep {
			sent(t, l, n, true, api.OK)
			items = append(items, n)
			holds(t, l, 0, items...)
		}
		for lost := range 10 {
			sent(t, l, 900+lost, false, api.OK)
			holds(t, l, lost+1, items...)
		}
		// One less is room for one more, behind all; how many were lost stays.
		taken(t, l, 0, api.OK)
		holds(t, l, 10, items[1:]...)
		sent(t, l, 999, true, api.OK)
		items = append(items[1:], 999)
		holds(t, l, 10, items...)
		for i, n := range items {
			taken(t, l, n, api.OK)
			holds(t, l, 10, items[i+1:]...)
		}
		taken(t, l, 0, api.ErrNone)
		holds(t, l, 10)
		sent(t, l, 8, true, api.OK)
		holds(t, l, 10, 8)
	}
}

// TestW1SendOfWrongNumbers: nothing is changed by them, be the line empty, full, or between.
func TestW1SendOfWrongNumbers(t *testing.T) {
	refused := func(l *Line, lost int, items ...int) {
		t.Helper()
		for _, n := range []int{math.MinInt, -1000, -1, 1000, 1001, math.MaxInt} {
			sent(t, l, n, false, api.ErrRange)
			holds(t, l, lost, items...)
		}
	}
	sample, queue := laid(t, api.Sample, 1), laid(t, api.Queue, 2)
	refused(sample, 0)
	sent(t, sample, 999, true, api.OK)
	refused(sample, 0, 999)
	refused(queue, 0)
	sent(t, queue, 0, true, api.OK)
	refused(queue, 0, 0)
	sent(t, queue, 999, true, api.OK)
	refused(queue, 0, 0, 999)
	sent(t, queue, 5, false, api.OK)
	refused(queue, 1, 0, 999)
}

// TestW1OfAllOrders: all rows of 9 calls, sends and takes, on each kind, against a list that is only ever made longer.
func TestW1OfAllOrders(t *testing.T) {
	for deep := 0; deep <= 4; deep++ {
		kind := api.Queue
		if deep == 0 {
			kind = api.Sample
		}
		for row := range 1 << 9 {
			l := laid(t, kind, max(deep, 1))
			var all []int
			from, lost := 0, 0
			for i := range 9 {
				send, n := row>>i&1 == 1, 100+i
				switch {
				case send && kind == api.Sample:
					sent(t, l, n, true, api.OK)
					all = append(all, n)
					from = len(all) - 1
				case send && len(all)-from == deep:
					sent(t, l, n, false, api.OK)
					lost++
				case send:
					sent(t, l, n, true, api.OK)
					all = append(all, n)
				case from == len(all):
					taken(t, l, 0, api.ErrNone)
				default:
					taken(t, l, all[from], api.OK)
					if kind == api.Queue {
						from++
					}
				}
				holds(t, l, lost, all[from:]...)
			}
		}
	}
}

// put asks for all that Put answers.
func put(t *testing.T, l *Line, want api.Errno, lost int, items ...int) {
	t.Helper()
	if err := l.Put(api.Held{Items: items, Lost: lost}); plain.Told(err) != want {
		t.Errorf("Put(%v, %d): got %v, want %v", items, lost, plain.Told(err), want)
	}
}

// TestPut: what is put there takes the place of all that was, and the line goes on with it.
func TestPut(t *testing.T) {
	l := laid(t, api.Queue, 3)
	put(t, l, api.OK, 9_999_999, 0, 999, 0)
	holds(t, l, 9_999_999, 0, 999, 0)
	sent(t, l, 5, false, api.OK)
	taken(t, l, 0, api.OK)
	sent(t, l, 6, true, api.OK)
	holds(t, l, 10_000_000, 999, 0, 6)
	put(t, l, api.OK, 1, 8)
	holds(t, l, 1, 8)
	put(t, l, api.OK, math.MaxInt)
	holds(t, l, math.MaxInt)
	put(t, l, api.OK, 0)
	holds(t, l, 0)
	sent(t, l, 4, true, api.OK)
	holds(t, l, 0, 4)

	s := laid(t, api.Sample, 1)
	put(t, s, api.OK, 0, 999)
	taken(t, s, 999, api.OK)
	sent(t, s, 3, true, api.OK)
	holds(t, s, 0, 3)
	put(t, s, api.OK, 0)
	taken(t, s, 0, api.ErrNone)
	sent(t, s, 2, true, api.OK)
	holds(t, s, 0, 2)
}

// TestPutOfWhatMayNotBe: nothing is changed by more than it is deep, by what nobody could send, nor by what could not be lost.
func TestPutOfWhatMayNotBe(t *testing.T) {
	s := laid(t, api.Sample, 1)
	put(t, s, api.OK, 0, 7)
	for _, lost := range []int{math.MinInt, -1, 1, 2, math.MaxInt} {
		put(t, s, api.ErrRange, lost)
		put(t, s, api.ErrRange, lost, 5)
		holds(t, s, 0, 7)
	}
	put(t, s, api.ErrRange, 0, 5, 6)
	holds(t, s, 0, 7)
	for deep := 1; deep <= 6; deep++ {
		l := laid(t, api.Queue, deep)
		full := []int{11, 12, 13, 14, 15, 16, 17, 18}[:deep]
		put(t, l, api.OK, 3, full...)
		for more := 1; deep+more <= 8; more++ {
			put(t, l, api.ErrRange, 0, make([]int, deep+more)...)
			holds(t, l, 3, full...)
		}
		for _, lost := range []int{math.MinInt, -2, -1} {
			put(t, l, api.ErrRange, lost, 5)
			holds(t, l, 3, full...)
		}
		for i := range deep {
			for _, n := range []int{math.MinInt, -1, 1000, math.MaxInt} {
				items := make([]int, deep)
				items[i] = n
				put(t, l, api.ErrRange, 0, items...)
				put(t, l, api.ErrRange, 0, items[:i+1]...)
				holds(t, l, 3, full...)
			}
		}
	}
}

// TestP2PutIsTheCallers: Put writes nothing into a list, nor behind it, and keeps none; nor does the line later.
func TestP2PutIsTheCallers(t *testing.T) {
	for _, kind := range []int{api.Sample, api.Queue} {
		l := laid(t, kind, 1)
		all := []int{4, -1, -1}
		put(t, l, api.OK, 0, all[:1]...)
		sent(t, l, 6, kind == api.Sample, api.OK)
		taken(t, l, l.Held().Items[0], api.OK)
		sent(t, l, 7, true, api.OK)
		if !slices.Equal(all, []int{4, -1, -1}) {
			t.Errorf("the list is %v now", all)
		}
		put(t, l, api.OK, 0, all[:1]...)
		all[0] = 77
		holds(t, l, 0, 4)
		put(t, l, api.OK, 0, all[:0]...)
		sent(t, l, 8, true, api.OK)
		if all[0] != 77 {
			t.Errorf("the list is %v now", all)
		}
	}
}

// TestP2LinesAreApart: neither does one line change another one, nor the wire that it was made of.
func TestP2LinesAreApart(t *testing.T) {
	w := cord(api.Queue, 2)
	a, _ := New(w)
	b, _ := New(w)
	w.Deep = 6
	for n := range 3 {
		sent(t, a, n, n < 2, api.OK)
	}
	holds(t, a, 1, 0, 1)
	holds(t, b, 0)
	sent(t, b, 9, true, api.OK)
	taken(t, b, 9, api.OK)
	holds(t, a, 1, 0, 1)
}

// TestP2HeldIsTheCallers: whoever writes into an answer, and behind it, changes no line and no other answer; and the line changes no answer.
func TestP2HeldIsTheCallers(t *testing.T) {
	scribble := func(h api.Held) {
		all := h.Items[:cap(h.Items)]
		for i := range all {
			all[i] = 77
		}
	}
	for _, kind := range []int{api.Sample, api.Queue} {
		l := laid(t, kind, 1)
		sent(t, l, 4, true, api.OK)
		first, second := l.Held(), l.Held()
		scribble(first)
		holds(t, l, 0, 4)
		taken(t, l, 4, api.OK)
		empty := l.Held()
		sent(t, l, 5, true, api.OK)
		if !slices.Equal(second.Items, []int{4}) {
			t.Errorf("another answer is %v now", second)
		}
		scribble(empty)
		holds(t, l, 0, 5)
	}
}
