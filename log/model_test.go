package log

import (
	"math"
	"testing"

	"framekeep/api"
	"framekeep/kernel"
)

// draw gives numbers that look like any, and are the same ones at each run.
type draw uint64

// below gives the next one, from 0 to below a bound.
func (d *draw) below(bound int) int {
	*d = *d*6364136223846793005 + 1442695040888963407
	return int(uint64(*d)>>33) % bound
}

// record of an act that was done, and how many bytes it has.
type record struct {
	act   act
	bytes int
}

// model is a log by a rule of the tests' own: a list of acts that are done, of which so many are safe, and half of one, perhaps. It keeps no bytes: how many an act has is asked of a new log.
type model struct {
	t          *testing.T
	text       string
	kernel     *kernel.Kernel
	done       []record
	safe, half int
	ahead      int
	stopped    bool
}

// bytes of so many that are done.
func (m *model) bytes(many int) int {
	all := 0
	for _, r := range m.done[:many] {
		all += r.bytes
	}
	return all
}

// began is a kernel in which acts are done.
func began(t *testing.T, text string, done ...record) *kernel.Kernel {
	t.Helper()
	k, err := kernel.New(parsed(t, text))
	if err != nil {
		t.Fatal(err)
	}
	for _, r := range done {
		do(k, r.act)
	}
	return k
}

// do an act that may be.
func do(k *kernel.Kernel, a act) {
	if len(a) == 3 {
		k.Poke(a[0], a[1], a[2])
		return
	}
	for range a[0] {
		k.Tick()
	}
}

// wrong tells what is wrong with an act by itself.
func (m *model) wrong(a act) api.Errno {
	switch {
	case len(a) == 1 && (a[0] < 0 || a[0] > 100):
		return api.ErrRange
	case len(a) == 1 && a[0] > 2000-m.kernel.Time():
		return api.ErrFull
	case len(a) == 3 && (a[0] < 0 || a[0] > 1 || a[1] < 0 || a[1] > 5 || a[2] < 0 || a[2] > 999):
		return api.ErrRange
	}
	return api.OK
}

// told does an act, and gives what it tells.
func (m *model) told(a act) api.Errno {
	if m.stopped {
		return api.ErrState
	}
	if e := m.wrong(a); e != api.OK {
		return e
	}
	if m.stopped = m.ahead == 0; m.stopped {
		if len(a) > 0 {
			m.half = long(m.t, m.text, a) / 2
		}
		return api.ErrState
	}
	m.ahead--
	if len(a) == 0 {
		m.safe = len(m.done)
		return api.OK
	}
	m.done = append(m.done, record{a, long(m.t, m.text, a)})
	do(m.kernel, a)
	return api.OK
}

// crash leaves what is safe, and the acts behind it as far as their bytes are kept.
func (m *model) crash(keep int) {
	left := m.done[:m.safe]
	for _, r := range m.done[m.safe:] {
		keep -= r.bytes
		if keep < 0 {
			break
		}
		left = append(left, r)
	}
	*m = model{t: m.t, text: m.text, kernel: began(m.t, m.text, left...), done: left, safe: len(left), ahead: math.MaxInt}
}

// fail in so many steps; the model counts down from the greatest number there is, where it never does.
func (m *model) fail(n int) {
	if m.ahead = n; n < 0 {
		m.ahead = math.MaxInt
	}
}

func (m *model) seen() view {
	v := view{time: m.kernel.Time(), bytes: m.bytes(len(m.done)) + m.half, safe: m.bytes(m.safe)}
	for r := range 2 {
		s, _ := m.kernel.State(r)
		v.rooms = append(v.rooms, s)
	}
	return v
}

// drawnAct is one that may be, most of the time.
func drawnAct(d *draw) act {
	switch d.below(4) {
	case 0:
		return act{}
	case 1:
		return act{d.below(7)*d.below(18) - d.below(2)}
	}
	return act{d.below(9) % 3, d.below(20)%7 - d.below(20)/19, d.below(1020) - 10}
}

// both is a log and its model; what they told is counted.
type both struct {
	log    *Log
	model  *model
	counts map[api.Errno]int
}

// act is done by both, which tell the same.
func (b both) act(t *testing.T, a act) {
	t.Helper()
	got, want := told(b.log, a), b.model.told(a)
	if got != want {
		t.Errorf("%v: got %v, want %v", a, got, want)
	}
	b.counts[want]++
}

// TestL2AsItsModel: many acts, crashes and failures in any order, held against a model at each of them.
func TestL2AsItsModel(t *testing.T) {
	var d draw
	counts := map[api.Errno]int{}
	left := 0
	for n := range 300 {
		text := []string{busy, tally}[n%2]
		b := both{made(t, text), &model{t: t, text: text, kernel: began(t, text), ahead: math.MaxInt}, counts}
		if n%3 == 0 {
			// Some are near the end of the time.
			for range 19 + d.below(2) {
				b.act(t, act{100})
			}
			b.act(t, act{})
		}
		for i := range 80 {
			switch d.below(12) {
			case 0:
				fail := d.below(12) - 1
				b.log.Fail(fail)
				b.model.fail(fail)
			case 1:
				keep, safe := d.below(100)-3, b.model.safe
				b.log.Crash(keep)
				b.model.crash(keep)
				left += b.model.safe - safe
			default:
				b.act(t, drawnAct(&d))
			}
			if got, want := seen(b.log), b.model.seen(); !got.same(want) || t.Failed() {
				t.Fatalf("log %d, call %d: got %v, want %v", n, i, got, want)
			}
		}
	}
	if counts[api.OK] < 2000 || counts[api.ErrRange] < 500 || counts[api.ErrState] < 500 || counts[api.ErrFull] < 500 || left < 500 {
		t.Errorf("%v; %d left behind what was safe", counts, left)
	}
}
