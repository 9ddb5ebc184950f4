package grove_test

import (
	"slices"
	"testing"

	"grove/api"
	"grove/grove"
)

// keeper: who has at the end of h what tx did: tx, if it is open, else the one that the commits have handed it to; false, if it was undone.
func keeper(h []api.Event, tx uint8) (uint8, bool) {
	for tx != 0 && slices.Contains(h, commit(tx)) {
		tx = parentOf(h, tx)
	}
	return tx, tx == 0 || isOpen(h, tx)
}

// otherHolders: P12's Holders, told from the events alone.
func otherHolders(h []api.Event, x uint8) (uint16, uint16) {
	var read, written uint16
	for _, e := range h {
		if e.Kind < api.Read || e.Kind > api.Add || e.Arg != x {
			continue
		}
		tx, ok := keeper(h, e.Tx)
		if !ok {
			continue
		}
		if e.Kind == api.Read {
			read |= bits(tx)
		} else {
			written |= bits(tx)
		}
	}
	return read, written
}

// otherOwn: what tx, or 0, has of its own: by the last of all Writes and Adds that are its by now; false, if there is none.
func otherOwn(h []api.Event, tx, x uint8) (int32, bool) {
	for _, e := range slices.Backward(h) {
		if e.Kind != api.Write && e.Kind != api.Add || e.Arg != x {
			continue
		}
		if n, ok := keeper(h, e.Tx); ok && n == tx {
			if e.Kind == api.Write {
				return e.Value, true
			}
			return answerOf(e), true
		}
	}
	return 0, tx == 0
}

func otherValue(h []api.Event, tx, x uint8) int32 {
	for {
		if v, ok := otherOwn(h, tx, x); ok {
			return v
		}
		tx = parentOf(h, tx)
	}
}

// otherWaits tells whether one of the holders is neither tx nor an ancestor of it.
func otherWaits(h []api.Event, tx uint8, holders uint16) bool {
	for ; tx != 0; tx = parentOf(h, tx) {
		holders &^= bits(tx)
	}
	return holders != 0
}

// otherFull: P8's and P9's ErrFull.
func otherFull(h []api.Event, e api.Event) bool {
	return len(h) == 60 || e.Kind == api.Begin && begunOf(h) == 15
}

// otherRefusal: the error of the call of e in a store that has written down h.
func otherRefusal(h []api.Event, e api.Event) api.Errno {
	if e.Kind == api.Begin {
		if e.Arg != 0 && !isOpen(h, e.Arg) {
			return api.ErrParent
		}
	} else if !isOpen(h, e.Tx) {
		return api.ErrTx
	}
	if e.Kind >= api.Read && e.Kind <= api.Add {
		if e.Arg > 3 {
			return api.ErrObject
		}
		read, written := otherHolders(h, e.Arg)
		if e.Kind != api.Read {
			written |= read
		}
		if otherWaits(h, e.Tx, written) {
			return api.ErrWait
		}
	}
	for tx := uint8(1); e.Kind == api.Commit && tx <= 15; tx++ {
		if isOpen(h, tx) && parentOf(h, tx) == e.Tx {
			return api.ErrChild
		}
	}
	if otherFull(h, e) {
		return api.ErrFull
	}
	return api.OK
}

// otherEvent: what is written down of the call of e, if it is not refused.
func otherEvent(h []api.Event, e api.Event) api.Event {
	switch e.Kind {
	case api.Begin:
		return begin(uint8(begunOf(h)+1), e.Arg)
	case api.Read:
		return read(e.Tx, e.Arg, otherValue(h, e.Tx, e.Arg))
	case api.Add:
		return add(e.Tx, e.Arg, e.Value, otherValue(h, e.Tx, e.Arg))
	}
	return e
}

func otherLook(h []api.Event) look {
	l := look{count: len(h)}
	copy(l.events[:], h)
	for x := range uint8(4) {
		l.values[x], _ = otherOwn(h, 0, x)
		l.read[x], l.written[x] = otherHolders(h, x)
	}
	return l
}

// call: mostly one that may well be granted, sometimes any.
func (d *dice) call(h []api.Event) api.Event {
	e := d.event(h)
	if e.Kind < api.Begin || e.Kind > api.Abort {
		e.Kind = api.Read
	}
	// With fewer ends there is more that lies in one another and more to wait for.
	if (e.Kind == api.Commit || e.Kind == api.Abort) && d.below(3) != 0 {
		e.Kind = uint8(2 + d.below(3))
		e.Arg = uint8(d.below(4))
	}
	if e.Kind == api.Abort && d.below(3) != 0 {
		e.Kind = api.Commit
	}
	if d.below(100) == 0 {
		e.Tx = uint8(d.below(256))
	}
	if d.below(100) == 0 {
		e.Arg = uint8(d.below(256))
	}
	e.Seen = 0
	return named(e)
}

// wantAsOther makes a call in s, which has written down h, and compares all it answers; what it has written down then is answered.
func wantAsOther(t *testing.T, s *grove.Store, h []api.Event, e api.Event) ([]api.Event, api.Errno) {
	t.Helper()
	err := otherRefusal(h, e)
	var n int32
	after := h
	if err == api.OK {
		happened := otherEvent(h, e)
		n = answerOf(happened)
		after = join(h, list(happened))
	}
	gotN, gotErr := ask(s, e)
	if gotN != n || gotErr != err {
		t.Fatalf("the call of %v behind %v: %d, %d, want %d, %d", e, h, gotN, gotErr, n, err)
	}
	if got, want := lookAt(t, s), otherLook(after); got != want {
		t.Fatalf("the call of %v behind %v: %v, want %v", e, h, got, want)
	}
	return after, err
}

func TestStoreAtAnyCalls(t *testing.T) {
	d := dice{8}
	var seen [7][11]int
	for range 1500 {
		s := grove.New()
		var h []api.Event
		for range d.below(140) {
			e := d.call(h)
			// Some refused calls are thrown again, so that there are full stores too.
			for range 4 {
				if otherRefusal(h, e) != api.OK && d.below(3) != 0 {
					e = d.call(h)
				}
			}
			var err api.Errno
			h, err = wantAsOther(t, s, h, e)
			seen[e.Kind][err]++
		}
		wantToBeAHistory(t, s)
	}
	touch := []api.Errno{api.OK, api.ErrTx, api.ErrObject, api.ErrWait, api.ErrFull}
	for kind, errors := range [][]api.Errno{
		api.Begin: {api.OK, api.ErrParent, api.ErrFull}, api.Read: touch, api.Write: touch, api.Add: touch,
		api.Commit: {api.OK, api.ErrTx, api.ErrChild, api.ErrFull}, api.Abort: {api.OK, api.ErrTx, api.ErrFull},
	} {
		for _, e := range errors {
			if seen[kind][e] < 10 {
				t.Errorf("only %d calls of kind %d with the error %d", seen[kind][e], kind, e)
			}
		}
	}
}

// wantToBeAHistory: what a store writes down is a history; played again it comes out as in the store; and it can be written as text.
func wantToBeAHistory(t *testing.T, s *grove.Store) {
	t.Helper()
	h := s.History()
	wantChecked(t, h, api.OK, 0)
	wantReplayed(t, h, -1, s.Values(), api.OK)
	text, e := grove.Print(h)
	if e != api.OK {
		t.Errorf("Print(%v): %d", h, e)
	}
	wantParsed(t, text, h, api.OK, 0)
}

// All rows of four calls, of a few kinds, behind two transactions: what random calls might leave out.
func TestStoreAtAllShortRows(t *testing.T) {
	calls := list(begin(0, 1), begin(0, 2), read(1, 0, 0), read(2, 0, 0), read(3, 0, 0), write(1, 0, 5), write(2, 0, 6), add(3, 0, 7, 0), commit(1), commit(2), commit(3), abort(1), abort(3))
	for _, first := range [][]api.Event{chain(2), row(2)} {
		for n := range 13 * 13 * 13 * 13 {
			s := storeOf(t, first...)
			h := first
			for _, i := range []int{n % 13, n / 13 % 13, n / 169 % 13, n / 2197} {
				h, _ = wantAsOther(t, s, h, calls[i])
			}
			wantToBeAHistory(t, s)
		}
	}
}

// Any numbers at all, at every call: nothing panics, and an error stands alone.
func TestStoreAtAnyNumbers(t *testing.T) {
	d := dice{9}
	for range 100 {
		s := grove.New()
		var h []api.Event
		for range 100 {
			e := api.Event{Kind: uint8(1 + d.below(6)), Tx: uint8(d.below(256)), Arg: uint8(d.below(256)), Value: d.int32()}
			if d.below(3) == 0 {
				e = d.call(h)
			}
			h, _ = wantAsOther(t, s, h, named(e))
			r, w, err := s.Holders(uint8(4 + d.below(252)))
			if r != 0 || w != 0 || err != api.ErrObject {
				t.Fatalf("Holders of no object: %d, %d, %d", r, w, err)
			}
		}
	}
}
