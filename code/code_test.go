package code

import (
	"math"
	"slices"
	"strings"
	"testing"

	"framekeep/api"
	"framekeep/plain"
)

// every op once, with its greatest numbers in code of 11 ops, and the text of it.
var every = []api.Op{
	{What: api.Set, A: 5, B: 999},
	{What: api.Copy, A: 5, B: 5},
	{What: api.Add, A: 4, B: 5},
	{What: api.Sub, A: 5, B: 3},
	{What: api.Mul, A: 0, B: 5},
	{What: api.Zero, A: 5, B: 10},
	{What: api.Jump, A: 0, B: 10},
	{What: api.Send, A: 5, B: 11},
	{What: api.Take, A: 5, B: 11},
	{What: api.Rest},
	{What: api.Fail},
}

const everyText = "set 5 999\ncopy 5 5\nadd 4 5\nsub 5 3\nmul 0 5\nzero 5 10\njump 10\nsend 5 11\ntake 5 11\nrest\nfail\n"

// rests is code of n ops that are all right.
func rests(n int) []api.Op { return slices.Repeat([]api.Op{{What: api.Rest}}, n) }

// told asks that a Check's answer is this one.
func told(t *testing.T, l []api.Op, place int, want api.Errno) {
	t.Helper()
	i, err := Check(l)
	if i != place || plain.Told(err) != want {
		t.Errorf("Check(%v): got %d, %v, want %d, %v", l, i, plain.Told(err), place, want)
	}
}

func TestC1CheckOfNoneAndTooMany(t *testing.T) {
	told(t, nil, 0, api.ErrNone)
	told(t, []api.Op{}, 0, api.ErrNone)
	told(t, rests(1), 0, api.OK)
	told(t, rests(20), 0, api.OK)
	told(t, rests(21), 0, api.ErrFull)
	told(t, rests(1000), 0, api.ErrFull)
	told(t, make([]api.Op, 21), 0, api.ErrFull)
	told(t, append(rests(21), api.Op{What: -1}), 0, api.ErrFull)
	told(t, every, 0, api.OK)
}

// most that A and B may be in code of n ops, as chapter 1 says it; known tells whether there is such a What.
func most(what, n int) (a, b int, known bool) {
	switch what {
	case api.Set:
		return 5, 999, true
	case api.Copy, api.Add, api.Sub, api.Mul:
		return 5, 5, true
	case api.Zero:
		return 5, n - 1, true
	case api.Jump:
		return 0, n - 1, true
	case api.Send, api.Take:
		return 5, 11, true
	case api.Rest, api.Fail:
		return 0, 0, true
	}
	return 0, 0, false
}

func TestC1CheckOfEachOp(t *testing.T) {
	whats := []int{math.MinInt, -1, 0, 1, 2, 3, 4, 5, 6, 7, 8, 9, 10, 11, 12, 13, math.MaxInt}
	numbers := []int{math.MinInt, -1000, -1, 0, 1, 2, 4, 5, 6, 7, 10, 11, 12, 13, 18, 19, 20, 21, 998, 999, 1000, 1001, math.MaxInt}
	for _, n := range []int{1, 2, 7, 20} {
		for _, at := range []int{0, n / 2, n - 1} {
			for _, what := range whats {
				a, b, known := most(what, n)
				for _, x := range numbers {
					for _, y := range numbers {
						l := rests(n)
						l[at] = api.Op{What: what, A: x, B: y}
						if known && 0 <= x && x <= a && 0 <= y && y <= b {
							told(t, l, 0, api.OK)
						} else {
							told(t, l, at, api.ErrRange)
						}
					}
				}
			}
		}
	}
}

func TestC1CheckTellsTheFirst(t *testing.T) {
	l := rests(20)
	l[19].What = 0
	told(t, l, 19, api.ErrRange)
	l[7] = api.Op{What: api.Jump, B: 20}
	told(t, l, 7, api.ErrRange)
	l[3] = api.Op{What: api.Rest, A: 1}
	told(t, l, 3, api.ErrRange)
	l[0] = api.Op{What: api.Set, A: 6}
	told(t, l, 0, api.ErrRange)
}

func TestC2Print(t *testing.T) {
	cases := []struct {
		l    []api.Op
		want string
	}{
		{every, everyText},
		{[]api.Op{{What: api.Set}}, "set 0 0\n"},
		{[]api.Op{{What: api.Jump}}, "jump 0\n"},
		{rests(20), strings.Repeat("rest\n", 20)},
	}
	for _, c := range cases {
		got, err := Print(c.l)
		if got != c.want || err != nil {
			t.Errorf("Print(%v): got %q, %v, want %q", c.l, got, err, c.want)
		}
	}
}

// wrongs are lists that Check refuses.
var wrongs = []struct {
	l    []api.Op
	want api.Errno
}{
	{nil, api.ErrNone},
	{[]api.Op{}, api.ErrNone},
	{make([]api.Op, 21), api.ErrFull},
	{[]api.Op{{What: api.Send, B: 3}, {What: 12}}, api.ErrRange},
	{[]api.Op{{What: api.Send, B: 3}, {What: api.Take, B: 12}}, api.ErrRange},
	{[]api.Op{{What: math.MinInt, A: math.MaxInt, B: math.MinInt}}, api.ErrRange},
}

func TestC2PrintOfWrongCode(t *testing.T) {
	for _, c := range wrongs {
		got, err := Print(c.l)
		if got != "" || plain.Told(err) != c.want {
			t.Errorf("Print(%v): got %q, %v, want \"\", %v", c.l, got, plain.Told(err), c.want)
		}
	}
}

func TestC2Parse(t *testing.T) {
	cases := []struct {
		text string
		want []api.Op
	}{
		{everyText, every},
		{"set 0 0\n", []api.Op{{What: api.Set}}},
		{"jump 0\n", []api.Op{{What: api.Jump}}},
		{"rest\nzero 1 2\nfail\n", []api.Op{{What: api.Rest}, {What: api.Zero, A: 1, B: 2}, {What: api.Fail}}},
		{strings.Repeat("rest\n", 20), rests(20)},
	}
	for _, c := range cases {
		got, err := Parse(c.text)
		if !slices.Equal(got, c.want) || err != nil {
			t.Errorf("Parse(%q): got %v, %v, want %v", c.text, got, err, c.want)
		}
	}
}

// refused asks that a text is none, and how.
func refused(t *testing.T, text string, want api.Errno) {
	t.Helper()
	got, err := Parse(text)
	if len(got) != 0 || plain.Told(err) != want {
		t.Errorf("Parse(%q): got %v, %v, want none, %v", text, got, plain.Told(err), want)
	}
}

func TestC2ParseOfNoSuchText(t *testing.T) {
	texts := []string{
		"\n", " ", " \n", "0\n", "1 0 0\n", "\x00\n", "\xff\n",
		"rest", "rest\nrest", "rest\n\n", "\nrest\n", "rest\n\nrest\n", "rest\r\n", "rest\x00\n",
		" rest\n", "rest \n", "rest 0\n", "rest 0 0\n", "fail 0\n", "fail\t\n",
		"REST\n", "Rest\n", "res\n", "rests\n", "rest fail\n",
		"jump\n", "jump \n", "jump 0 0\n", "jump  0\n", "jump 0 \n", "jump\t0\n", "jump0\n",
		"set\n", "set 0\n", "set 0 \n", "set  0\n", "set 0 0 0\n", "set 0  0\n", "set 0 0 \n", "set 0\n0\n",
		"set 00 0\n", "set 0 00\n", "set 0 01\n", "set 0 0001\n", "set 01 1\n", "zero 0 00\n",
		"set 0 10000\n", "set 10000 0\n", "set 0 99999999999999999999\n", "set 0 00000\n",
		"set 0 -1\n", "set 0 +1\n", "set 0 -0\n", "set 0 1_0\n", "set 0 0x1\n", "set 0 1e1\n", "set 0 1.0\n",
		"set 0 a\n", "set a 0\n", "set 0 \u0661\n", "set 0 ,\n",
	}
	for _, text := range texts {
		refused(t, text, api.ErrSyntax)
	}
}

func TestC2ParseOfWrongCode(t *testing.T) {
	refused(t, "", api.ErrNone)
	refused(t, strings.Repeat("rest\n", 21), api.ErrFull)
	refused(t, strings.Repeat("rest\n", 100000), api.ErrFull)
	refused(t, strings.Repeat("set 9 9\n", 21), api.ErrFull)
	for _, text := range []string{
		"set 0 1000\n", "set 0 9999\n", "set 6 0\n", "set 9999 0\n", "copy 0 6\n", "add 6 0\n", "sub 0 6\n", "mul 6 6\n",
		"zero 0 1\n", "zero 6 0\n", "jump 1\n", "rest\njump 2\n", "send 0 12\n", "send 6 0\n", "take 0 12\n", "take 6 0\n",
		strings.Repeat("rest\n", 19) + "jump 20\n",
	} {
		refused(t, text, api.ErrRange)
	}
}

func TestC2ParseTellsSyntaxFirst(t *testing.T) {
	refused(t, "set 6 0\nrest \n", api.ErrSyntax)
	refused(t, strings.Repeat("rest\n", 21)+"rest", api.ErrSyntax)
	refused(t, strings.Repeat("rest\n", 1000)+"set 0\n", api.ErrSyntax)
	refused(t, strings.Repeat("jump 99\n", 30)+"\n", api.ErrSyntax)
}

// TestC2ReadOfALine: its form alone is asked, not what its numbers may be in code.
func TestC2ReadOfALine(t *testing.T) {
	cases := []struct {
		line string
		want api.Op
		ok   bool
	}{
		{"set 5 999\n", api.Op{What: api.Set, A: 5, B: 999}, true},
		{"set 9999 9999\n", api.Op{What: api.Set, A: 9999, B: 9999}, true},
		{"jump 20\n", api.Op{What: api.Jump, B: 20}, true},
		{"fail\n", api.Op{What: api.Fail}, true},
		{"", api.Op{}, false},
		{"\n", api.Op{}, false},
		{"fail", api.Op{}, false},
		{"fail\nfail\n", api.Op{}, false},
		{"set 5 10000\n", api.Op{}, false},
		{"room\n", api.Op{}, false},
	}
	for _, c := range cases {
		if got, ok := Read(c.line); got != c.want || ok != c.ok {
			t.Errorf("Read(%q): got %v, %v, want %v, %v", c.line, got, ok, c.want, c.ok)
		}
	}
}

// TestC2ParseTakesWhatPrintWrites: of all texts that are one byte off, those that are taken are printed as they stand.
func TestC2ParseTakesWhatPrintWrites(t *testing.T) {
	taken := 0
	ask := func(text string) {
		l, err := Parse(text)
		if err != nil {
			return
		}
		taken++
		if again, err := Print(l); again != text || err != nil {
			t.Errorf("Parse(%q) is taken, but printed as %q, %v", text, again, err)
		}
	}
	for i := range len(everyText) {
		ask(everyText[:i] + everyText[i+1:])
		for b := range 256 {
			ask(everyText[:i] + string([]byte{byte(b)}) + everyText[i+1:])
			ask(everyText[:i] + string([]byte{byte(b)}) + everyText[i:])
		}
	}
	if taken == 0 {
		t.Error("none is taken")
	}
}

func TestC2Wires(t *testing.T) {
	cases := []struct {
		text         string
		sends, takes []int
	}{
		{"rest\n", nil, nil},
		{"set 3 7\ncopy 2 3\nzero 1 1\njump 2\n", nil, nil},
		{"send 0 0\n", []int{0}, nil},
		{"take 5 11\n", nil, []int{11}},
		{"send 0 11\nsend 1 3\nsend 0 0\nsend 2 3\nsend 0 11\n", []int{0, 3, 11}, nil},
		{"take 1 5\nsend 1 5\ntake 0 2\ntake 1 2\nsend 0 4\n", []int{4, 5}, []int{2, 5}},
	}
	for _, c := range cases {
		l, err := Parse(c.text)
		if err != nil {
			t.Fatalf("Parse(%q): %v", c.text, err)
		}
		sends, takes, err := Wires(l)
		if !slices.Equal(sends, c.sends) || !slices.Equal(takes, c.takes) || err != nil {
			t.Errorf("Wires of %q: got %v, %v, %v, want %v, %v", c.text, sends, takes, err, c.sends, c.takes)
		}
	}
}

func TestC2WiresOfAllNumbers(t *testing.T) {
	var l []api.Op
	for w := 11; w >= 0; w-- {
		l = append(l, api.Op{What: api.Send + w%2, B: w})
	}
	sends, takes, err := Wires(l)
	if !slices.Equal(sends, []int{0, 2, 4, 6, 8, 10}) || !slices.Equal(takes, []int{1, 3, 5, 7, 9, 11}) || err != nil {
		t.Errorf("Wires(%v): got %v, %v, %v", l, sends, takes, err)
	}
}

func TestC2WiresOfWrongCode(t *testing.T) {
	for _, c := range wrongs {
		sends, takes, err := Wires(c.l)
		if len(sends) != 0 || len(takes) != 0 || plain.Told(err) != c.want {
			t.Errorf("Wires(%v): got %v, %v, %v, want none, none, %v", c.l, sends, takes, plain.Told(err), c.want)
		}
	}
}

// TestP2ListsStayAsTheyAre: neither what is handed in nor what lies behind its length is written into.
func TestP2ListsStayAsTheyAre(t *testing.T) {
	behind := api.Op{What: 77, A: 77, B: 77}
	memory := append(slices.Clone(every), behind, behind)
	l := memory[:len(every)]
	told(t, l, 0, api.OK)
	if _, err := Print(l); err != nil {
		t.Error(err)
	}
	if _, _, err := Wires(l); err != nil {
		t.Error(err)
	}
	if !slices.Equal(memory, append(slices.Clone(every), behind, behind)) {
		t.Errorf("changed to %v", memory)
	}
}

// TestP2AnswersAreTheCallers: whoever writes into an answer, and behind it, changes no other one.
func TestP2AnswersAreTheCallers(t *testing.T) {
	l, _ := Parse(everyText)
	other, _ := Parse(everyText)
	clear(l[:cap(l)])
	if !slices.Equal(other, every) {
		t.Errorf("Parse: another answer is %v now", other)
	}
	for range 2 {
		sends, takes, _ := Wires(every)
		if !slices.Equal(sends, []int{11}) || !slices.Equal(takes, []int{11}) {
			t.Fatalf("Wires: got %v, %v", sends, takes)
		}
		clear(sends[:cap(sends)])
		if !slices.Equal(takes, []int{11}) {
			t.Errorf("Wires: the other list is %v now", takes)
		}
		clear(takes[:cap(takes)])
	}
}
