package words

import (
	"slices"
	"testing"
)

func TestLine(t *testing.T) {
	cases := []struct {
		word    string
		numbers []int
		want    string
	}{
		{"rest", nil, "rest\n"},
		{"jump", []int{3}, "jump 3\n"},
		{"set", []int{0, 999}, "set 0 999\n"},
		{"wire", []int{0, 1, 2, 3, 4, 5, 6}, "wire 0 1 2 3 4 5 6\n"},
	}
	for _, c := range cases {
		if got := Line(c.word, c.numbers...); got != c.want {
			t.Errorf("Line(%q, %v): got %q, want %q", c.word, c.numbers, got, c.want)
		}
		word, numbers, ok := Read(c.want, 4)
		if word != c.word || !slices.Equal(numbers, c.numbers) || !ok {
			t.Errorf("Read(%q): got %q, %v, %v", c.want, word, numbers, ok)
		}
	}
}

func TestReadOfNoLine(t *testing.T) {
	for _, line := range []string{"", "rest", "rest \n", "jump 3", "jump  3\n", "jump 3 \n", "jump x\n", "jump 03\n", "jump 10000\n", "jump -1\n", "set 1 x\n"} {
		word, numbers, ok := Read(line, 4)
		if word != "" || len(numbers) != 0 || ok {
			t.Errorf("Read(%q): got %q, %v, %v, want none", line, word, numbers, ok)
		}
	}
}

func TestNumber(t *testing.T) {
	cases := []struct {
		word   string
		digits int
		want   int
		ok     bool
	}{
		{"0", 4, 0, true},
		{"7", 1, 7, true},
		{"10", 4, 10, true},
		{"9999", 4, 9999, true},
		{"10000", 4, 0, false},
		{"10000", 7, 10000, true},
		{"9999999", 7, 9999999, true},
		{"10000000", 7, 0, false},
		{"99999999999999999999", 30, 0, false},
		{"7", 0, 0, false},
		{"7", -1, 0, false},
		{"", 4, 0, false},
		{"00", 4, 0, false},
		{"01", 4, 0, false},
		{"-1", 4, 0, false},
		{"-0", 4, 0, false},
		{"+1", 4, 0, false},
		{"1_0", 4, 0, false},
		{"0x1", 4, 0, false},
		{" 1", 4, 0, false},
		{"1\n", 4, 0, false},
		{"a", 4, 0, false},
	}
	for _, c := range cases {
		if got, ok := Number(c.word, c.digits); got != c.want || ok != c.ok {
			t.Errorf("Number(%q, %d): got %d, %v, want %d, %v", c.word, c.digits, got, ok, c.want, c.ok)
		}
	}
}
