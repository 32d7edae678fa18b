package kernel

import (
	"framekeep/api"
	"framekeep/wire"
)

// Lines of the wires of a plan, on which rooms send and from which they take: for layers that have rooms elsewhere, too.
type Lines []*wire.Line

// NewLines of wires, all New. With an error of one of them there is none.
func NewLines(wires []api.Wire) (Lines, error) {
	var out Lines
	for _, w := range wires {
		l, err := wire.New(w)
		if err != nil {
			return nil, err
		}
		out = append(out, l)
	}
	return out, nil
}

// Offer is what an op may take; nothing, if it is none that takes.
func (l Lines) Offer(o api.Op) (int, bool) {
	if o.What != api.Take || !below(o.B, len(l)) {
		return 0, false
	}
	return l[o.B].Peek()
}

// Settle what a room has done by an op at which it did not fail: what it was offered is taken, and what it sends is sent. It tells what came of that.
func (l Lines) Settle(o api.Op, sent int) int {
	switch o.What {
	case api.Take:
		return l.take(o.B)
	case api.Send:
		return l.send(o.B, sent)
	}
	return Went
}

// take from a line what a room was offered, and tell what came of it.
func (l Lines) take(i int) int {
	if !below(i, len(l)) {
		return Lacked
	}
	if _, err := l[i].Take(); err != nil {
		return Lacked
	}
	return Took
}

// send a number on a line, and tell what came of it.
func (l Lines) send(i, n int) int {
	if !below(i, len(l)) {
		return Lacked
	}
	if there, err := l[i].Send(n); err != nil || !there {
		return Lacked
	}
	return Sent
}
