// Package code tells what a room does.
package code

import (
	"slices"
	"strings"

	"framekeep/api"
	"framekeep/words"
)

// digits that a number of a line has at most.
const digits = 4

// form of an op: its name, and the bounds that its A and B are below.
type form struct {
	name  string
	below [2]int
}

// Bounds that are no plain numbers.
const (
	place  = 0 // below as many as there are ops: only the whole code tells
	unused = 1 // it is always 0, so no line says it
)

// forms by What; there is none at 0.
var forms = [...]form{
	api.Set:  {"set", [2]int{api.Cells, api.Modulo}},
	api.Copy: {"copy", [2]int{api.Cells, api.Cells}},
	api.Add:  {"add", [2]int{api.Cells, api.Cells}},
	api.Sub:  {"sub", [2]int{api.Cells, api.Cells}},
	api.Mul:  {"mul", [2]int{api.Cells, api.Cells}},
	api.Zero: {"zero", [2]int{api.Cells, place}},
	api.Jump: {"jump", [2]int{unused, place}},
	api.Send: {"send", [2]int{api.Cells, api.MaxWires}},
	api.Take: {"take", [2]int{api.Cells, api.MaxWires}},
	api.Rest: {"rest", [2]int{unused, unused}},
	api.Fail: {"fail", [2]int{unused, unused}},
}

// Check tells which op is wrong, and how.
func Check(l []api.Op) (int, error) {
	if len(l) == 0 {
		return 0, api.ErrNone
	}
	if len(l) > api.MaxCode {
		return 0, api.ErrFull
	}
	wrong := func(o api.Op) bool { return !fits(o, len(l)) }
	if i := slices.IndexFunc(l, wrong); i >= 0 {
		return i, api.ErrRange
	}
	return 0, nil
}

// fits tells whether an op may stand in code of so many ops.
func fits(o api.Op, ops int) bool {
	if o.What < api.Set || o.What > api.Fail {
		return false
	}
	below := forms[o.What].below
	for i, n := range [2]int{o.A, o.B} {
		bound := below[i]
		if bound == place {
			bound = ops
		}
		if n < 0 || n >= bound {
			return false
		}
	}
	return true
}

// Print code.
func Print(l []api.Op) (string, error) {
	if _, err := Check(l); err != nil {
		return "", err
	}
	var b strings.Builder
	for _, o := range l {
		b.WriteString(line(o))
	}
	return b.String(), nil
}

// line of an op that fits.
func line(o api.Op) string {
	f := forms[o.What]
	var numbers []int
	for i, n := range [2]int{o.A, o.B} {
		if f.below[i] != unused {
			numbers = append(numbers, n)
		}
	}
	return words.Line(f.name, numbers...)
}

// Parse code.
func Parse(text string) ([]api.Op, error) {
	var l []api.Op
	for line := range strings.Lines(text) {
		o, ok := Read(line)
		if !ok {
			return nil, api.ErrSyntax
		}
		// One op too many is enough for Check; the lines behind it are still read, as ErrSyntax comes first.
		if len(l) <= api.MaxCode {
			l = append(l, o)
		}
	}
	if _, err := Check(l); err != nil {
		return nil, err
	}
	return l, nil
}

// Read takes a line as an op, if it has the form of one; its numbers may still be out of bounds.
func Read(line string) (api.Op, bool) {
	name, numbers, ok := words.Read(line, digits)
	what := named(name)
	if !ok || what == 0 {
		return api.Op{}, false
	}
	var said [2]int
	for i, bound := range forms[what].below {
		if bound == unused {
			continue
		}
		if len(numbers) == 0 {
			return api.Op{}, false
		}
		said[i], numbers = numbers[0], numbers[1:]
	}
	if len(numbers) != 0 {
		return api.Op{}, false
	}
	return api.Op{What: what, A: said[0], B: said[1]}, true
}

// named tells which What has a name; 0, if none has.
func named(name string) int {
	for what := api.Set; what <= api.Fail; what++ {
		if forms[what].name == name {
			return what
		}
	}
	return 0
}

// Wires that code sends on, and takes from.
func Wires(l []api.Op) ([]int, []int, error) {
	if _, err := Check(l); err != nil {
		return nil, nil, err
	}
	return wiresOf(l, api.Send), wiresOf(l, api.Take), nil
}

// wiresOf all ops of one What: wire by wire is asked, so that each comes once, rising.
func wiresOf(l []api.Op, what int) []int {
	var out []int
	for w := range api.MaxWires {
		if slices.ContainsFunc(l, func(o api.Op) bool { return o.What == what && o.B == w }) {
			out = append(out, w)
		}
	}
	return out
}
