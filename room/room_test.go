package room

import (
	"math"
	"slices"
	"testing"

	"framekeep/api"
	"framekeep/code"
	"framekeep/plain"
)

// ops of a text that is known to be code.
func ops(t *testing.T, text string) []api.Op {
	t.Helper()
	l, err := code.Parse(text)
	if err != nil {
		t.Fatalf("Parse(%q): %v", text, err)
	}
	return l
}

// with makes a state that has not failed.
func with(at int, cells ...int) api.State {
	s := api.State{At: at}
	copy(s.Cells[:], cells)
	return s
}

// stepped asks for all that a step without an error answers.
func stepped(t *testing.T, l []api.Op, s api.State, got int, is bool, want api.State, sends int) {
	t.Helper()
	then, sent, err := Step(l, s, got, is)
	if then != want || sent != sends || err != nil {
		t.Errorf("Step(%v, %v, %d, %v): got %v, %d, %v, want %v, %d", l, s, got, is, then, sent, err, want, sends)
	}
}

// refused asks that a step has this error, and no other answer.
func refused(t *testing.T, l []api.Op, s api.State, got int, is bool, want api.Errno) {
	t.Helper()
	then, sent, err := Step(l, s, got, is)
	if then != (api.State{}) || sent != 0 || plain.Told(err) != want {
		t.Errorf("Step(%v, %v, %d, %v): got %v, %d, %v, want none, 0, %v", l, s, got, is, then, sent, plain.Told(err), want)
	}
}

// checked asks for the error of Check.
func checked(t *testing.T, l []api.Op, s api.State, want api.Errno) {
	t.Helper()
	if err := Check(l, s); plain.Told(err) != want {
		t.Errorf("Check(%v, %v): got %v, want %v", l, s, plain.Told(err), want)
	}
}

func TestR1New(t *testing.T) {
	if New() != (api.State{}) {
		t.Errorf("New: got %v", New())
	}
	checked(t, ops(t, "rest\n"), New(), api.OK)
}

// wrongs are lists that chapter 1's Check refuses.
var wrongs = []struct {
	l    []api.Op
	want api.Errno
}{
	{nil, api.ErrNone},
	{[]api.Op{}, api.ErrNone},
	{make([]api.Op, 21), api.ErrFull},
	{[]api.Op{{What: api.Rest}, {What: 12}}, api.ErrRange},
	{[]api.Op{{What: api.Rest}, {What: api.Jump, B: 2}}, api.ErrRange},
	{[]api.Op{{What: math.MinInt, A: math.MaxInt, B: math.MinInt}}, api.ErrRange},
}

func TestR1CheckOfWrongCode(t *testing.T) {
	states := []api.State{New(), with(1), with(21), with(-1), with(0, 1000), {Failed: true}}
	for _, c := range wrongs {
		for _, s := range states {
			checked(t, c.l, s, c.want)
		}
	}
}

func TestR1CheckOfPlaces(t *testing.T) {
	for _, n := range []int{1, 2, 7, 20} {
		l := slices.Repeat([]api.Op{{What: api.Rest}}, n)
		for _, failed := range []bool{false, true} {
			for _, at := range []int{0, n / 2, n - 1} {
				checked(t, l, api.State{At: at, Failed: failed}, api.OK)
			}
			for _, at := range []int{math.MinInt, -1, n, n + 1, math.MaxInt} {
				checked(t, l, api.State{At: at, Failed: failed}, api.ErrRange)
			}
		}
	}
}

func TestR1CheckOfCells(t *testing.T) {
	l := ops(t, "rest\n")
	for cell := range api.Cells {
		for _, failed := range []bool{false, true} {
			s := api.State{Failed: failed}
			for _, n := range []int{0, 1, 998, 999} {
				s.Cells[cell] = n
				checked(t, l, s, api.OK)
			}
			for _, n := range []int{math.MinInt, -1, 1000, 1001, math.MaxInt} {
				s.Cells[cell] = n
				checked(t, l, s, api.ErrRange)
			}
		}
	}
}

func TestR2StepOfNumbers(t *testing.T) {
	cases := []struct {
		text       string
		cells, out []int
	}{
		{"set 0 0\n", []int{7, 8}, []int{0, 8}},
		{"set 1 999\n", []int{7, 8}, []int{7, 999}},
		{"set 5 20\n", []int{1, 2, 3, 4, 5, 6}, []int{1, 2, 3, 4, 5, 20}},
		{"copy 0 5\n", []int{1, 2, 3, 4, 5, 6}, []int{6, 2, 3, 4, 5, 6}},
		{"copy 5 0\n", []int{1, 2, 3, 4, 5, 6}, []int{1, 2, 3, 4, 5, 1}},
		{"copy 2 2\n", []int{1, 2, 3}, []int{1, 2, 3}},
		{"add 0 1\n", []int{3, 4}, []int{7, 4}},
		{"add 0 1\n", []int{500, 499}, []int{999, 499}},
		{"add 0 1\n", []int{500, 500}, []int{0, 500}},
		{"add 0 1\n", []int{999, 999}, []int{998, 999}},
		{"add 4 4\n", []int{0, 0, 0, 0, 700}, []int{0, 0, 0, 0, 400}},
		{"sub 0 1\n", []int{9, 4}, []int{5, 4}},
		{"sub 0 1\n", []int{4, 4}, []int{0, 4}},
		{"sub 0 1\n", []int{4, 9}, []int{995, 9}},
		{"sub 0 1\n", []int{0, 1}, []int{999, 1}},
		{"sub 0 1\n", []int{0, 999}, []int{1, 999}},
		{"sub 0 1\n", []int{999, 0}, []int{999, 0}},
		{"sub 3 3\n", []int{0, 0, 0, 999}, []int{0, 0, 0, 0}},
		{"mul 0 1\n", []int{3, 4}, []int{12, 4}},
		{"mul 0 1\n", []int{27, 37}, []int{999, 37}},
		{"mul 0 1\n", []int{40, 25}, []int{0, 25}},
		{"mul 0 1\n", []int{999, 999}, []int{1, 999}},
		{"mul 0 1\n", []int{999, 0}, []int{0, 0}},
		{"mul 5 5\n", []int{0, 0, 0, 0, 0, 123}, []int{0, 0, 0, 0, 0, 129}},
	}
	for _, c := range cases {
		// What is there to be taken is none of their concern.
		stepped(t, ops(t, c.text), with(0, c.cells...), 0, false, with(0, c.out...), -1)
		stepped(t, ops(t, c.text), with(0, c.cells...), 77, true, with(0, c.out...), -1)
	}
}

// TestR2StepOfAllNumbers holds Add, Sub and Mul against the plain rule, at pairs of cells from edge to edge.
func TestR2StepOfAllNumbers(t *testing.T) {
	add, sub, mul := ops(t, "add 2 4\n"), ops(t, "sub 2 4\n"), ops(t, "mul 2 4\n")
	numbers := []int{0, 1, 2, 31, 32, 333, 499, 500, 501, 777, 998, 999}
	for _, x := range numbers {
		for _, y := range numbers {
			s := with(0, 1, 2, x, 4, y, 6)
			less := x - y
			if less < 0 {
				less += 1000
			}
			stepped(t, add, s, 0, false, with(0, 1, 2, (x+y)%1000, 4, y, 6), -1)
			stepped(t, sub, s, 0, false, with(0, 1, 2, less, 4, y, 6), -1)
			stepped(t, mul, s, 0, false, with(0, 1, 2, (x*y)%1000, 4, y, 6), -1)
		}
	}
}

func TestR2StepGoesOn(t *testing.T) {
	l := ops(t, "set 0 1\ncopy 0 0\nrest\nsend 0 3\nrest\n")
	for at := range l {
		then, _, err := Step(l, with(at, 1), 0, false)
		if then != with((at+1)%5, 1) || err != nil {
			t.Errorf("at %d: got %v, %v", at, then, err)
		}
	}
	stepped(t, ops(t, "rest\n"), with(0, 1, 2, 3, 4, 5, 6), 0, false, with(0, 1, 2, 3, 4, 5, 6), -1)
	most := slices.Repeat([]api.Op{{What: api.Rest}}, 20)
	stepped(t, most, with(18), 0, false, with(19), -1)
	stepped(t, most, with(19), 0, false, with(0), -1)
}

func TestR2StepOfZeroAndJump(t *testing.T) {
	l := ops(t, "rest\nzero 5 0\nzero 0 3\njump 1\njump 4\n")
	stepped(t, l, with(1, 1, 1, 1, 1, 1, 0), 9, true, with(0, 1, 1, 1, 1, 1, 0), -1)
	stepped(t, l, with(1, 0, 0, 0, 0, 0, 1), 9, true, with(2, 0, 0, 0, 0, 0, 1), -1)
	stepped(t, l, with(2, 0, 7), 0, false, with(3, 0, 7), -1)
	stepped(t, l, with(2, 999), 0, false, with(3, 999), -1)
	stepped(t, l, with(3), 0, false, with(1), -1)
	stepped(t, l, with(3, 8, 8, 8, 8, 8, 8), 0, false, with(1, 8, 8, 8, 8, 8, 8), -1)
	stepped(t, l, with(4, 1), 0, false, with(4, 1), -1)
	// Where it says is itself, or behind the last.
	stepped(t, ops(t, "zero 2 0\n"), with(0), 0, false, with(0), -1)
	stepped(t, ops(t, "rest\nzero 2 1\n"), with(1), 0, false, with(1), -1)
	stepped(t, ops(t, "rest\nzero 2 1\n"), with(1, 0, 0, 1), 0, false, with(0, 0, 0, 1), -1)
}

func TestR2StepOfSend(t *testing.T) {
	l := ops(t, "send 0 11\nsend 5 0\n")
	for _, is := range []bool{false, true} {
		stepped(t, l, with(0, 0, 2, 3, 4, 5, 6), 44, is, with(1, 0, 2, 3, 4, 5, 6), 0)
		stepped(t, l, with(0, 999), 44, is, with(1, 999), 999)
		stepped(t, l, with(1, 1, 2, 3, 4, 5, 6), 44, is, with(0, 1, 2, 3, 4, 5, 6), 6)
	}
}

func TestR2StepOfTake(t *testing.T) {
	l := ops(t, "take 0 11\ntake 5 0\n")
	for _, got := range []int{0, 1, 500, 999} {
		stepped(t, l, with(0, 1, 2, 3, 4, 5, 6), got, true, with(1, got, 2, 3, 4, 5, 6), -1)
		stepped(t, l, with(1, 1, 2, 3, 4, 5, 6), got, true, with(0, 1, 2, 3, 4, 5, got), -1)
		stepped(t, l, with(0, 1, 2, 3, 4, 5, 6), got, false, with(0, 1, 2, 3, 4, 5, 6), -1)
		stepped(t, l, with(1, 1, 2, 3, 4, 5, 6), got, false, with(1, 1, 2, 3, 4, 5, 6), -1)
	}
}

func TestR2StepOfFail(t *testing.T) {
	l := ops(t, "rest\nfail\nrest\n")
	failed := with(1, 1, 2, 3, 4, 5, 6)
	failed.Failed = true
	stepped(t, l, with(1, 1, 2, 3, 4, 5, 6), 0, false, failed, -1)
	stepped(t, l, with(1, 1, 2, 3, 4, 5, 6), 9, true, failed, -1)
	stepped(t, l, failed, 0, false, failed, -1)
}

// TestR2StepOfOneThatFailed: it stays, and sends nothing, whatever op it is at.
func TestR2StepOfOneThatFailed(t *testing.T) {
	l := ops(t, "set 0 9\ncopy 0 1\nadd 0 1\nsub 0 1\nmul 0 1\nzero 5 0\njump 0\nsend 1 0\ntake 0 0\nrest\nfail\n")
	for at := range l {
		s := api.State{At: at, Cells: [6]int{1, 2, 3, 4, 5, 0}, Failed: true}
		stepped(t, l, s, 0, false, s, -1)
		stepped(t, l, s, 7, true, s, -1)
	}
}

func TestR2StepOfWrongCodeAndStates(t *testing.T) {
	for _, c := range wrongs {
		for _, s := range []api.State{New(), with(1), with(-1, -1), {Failed: true}} {
			refused(t, c.l, s, 0, false, c.want)
			refused(t, c.l, s, 1000, true, c.want)
		}
	}
	l := ops(t, "rest\nsend 0 0\n")
	for _, at := range []int{math.MinInt, -1, 2, 3, math.MaxInt} {
		refused(t, l, with(at), 0, false, api.ErrRange)
		refused(t, l, api.State{At: at, Failed: true}, 0, true, api.ErrRange)
	}
	for _, n := range []int{math.MinInt, -1, 1000, math.MaxInt} {
		refused(t, l, with(1, n), 0, false, api.ErrRange)
		refused(t, l, with(0, 0, 0, 0, 0, 0, n), 0, true, api.ErrRange)
	}
}

// TestR2StepOfWrongGot: it is asked of every op, and of one that failed, but only if it is there.
func TestR2StepOfWrongGot(t *testing.T) {
	l := ops(t, "take 0 0\nrest\nfail\nsend 0 0\n")
	for at := range l {
		for _, failed := range []bool{false, true} {
			s := api.State{At: at, Failed: failed}
			for _, got := range []int{math.MinInt, -1, 1000, 1001, math.MaxInt} {
				refused(t, l, s, got, true, api.ErrRange)
				without, n, err := Step(l, s, 0, false)
				stepped(t, l, s, got, false, without, n)
				if err != nil {
					t.Errorf("Step(%v, %v): %v", l, s, err)
				}
			}
		}
	}
}

func TestR2StepByStep(t *testing.T) {
	// It counts from 3 down to 0, sends 0, and fails.
	l := ops(t, "set 0 3\nset 1 1\nzero 0 5\nsub 0 1\njump 2\nsend 0 0\nfail\n")
	s, last := New(), -1
	for range 40 {
		then, sent, err := Step(l, s, 0, false)
		if err != nil {
			t.Fatal(err)
		}
		if sent >= 0 {
			last = sent
		}
		s = then
	}
	want := with(6, 0, 1)
	want.Failed = true
	if s != want || last != 0 {
		t.Errorf("got %v, sent %d, want %v, 0", s, last, want)
	}
}

// TestP2CodeStaysAsItIs: neither what is handed in nor what lies behind its length is written into, or read.
func TestP2CodeStaysAsItIs(t *testing.T) {
	memory := append(ops(t, "set 0 1\ncopy 1 0\nsend 1 0\n"), api.Op{What: 77}, api.Op{What: api.Set, B: 5})
	before := slices.Clone(memory)
	l := memory[:3]
	for at := range l {
		stepped(t, l, with(at, 1, 1), 0, false, with((at+1)%3, 1, 1), []int{-1, -1, 1}[at])
	}
	checked(t, l, with(3), api.ErrRange)
	if !slices.Equal(memory, before) {
		t.Errorf("changed to %v", memory)
	}
}
