// Package words makes and reads the lines that the layers' texts are made of: a word, then numbers, a blank ahead of each, ended by byte 10.
package words

import (
	"strconv"
	"strings"
)

// Line of a word and as many numbers as one likes.
func Line(word string, numbers ...int) string {
	var b strings.Builder
	b.WriteString(word)
	for _, n := range numbers {
		b.WriteByte(' ')
		b.WriteString(strconv.Itoa(n))
	}
	b.WriteByte('\n')
	return b.String()
}

// Read takes a line apart, if it is one that Line makes, with numbers from 0 on of at most so many digits.
func Read(line string, digits int) (string, []int, bool) {
	body, ended := strings.CutSuffix(line, "\n")
	if !ended {
		return "", nil, false
	}
	word, rest, more := strings.Cut(body, " ")
	if !more {
		return word, nil, true
	}
	var numbers []int
	for w := range strings.SplitSeq(rest, " ") {
		n, ok := Number(w, digits)
		if !ok {
			return "", nil, false
		}
		numbers = append(numbers, n)
	}
	return word, numbers, true
}

// Number reads one from 0 on, of at most so many digits, without a needless 0.
func Number(word string, digits int) (int, bool) {
	if len(word) > digits {
		return 0, false
	}
	n, err := strconv.Atoi(word)
	// Atoi also takes signs and needless noughts: only what would be written so again is a number here.
	if err != nil || n < 0 || strconv.Itoa(n) != word {
		return 0, false
	}
	return n, true
}
