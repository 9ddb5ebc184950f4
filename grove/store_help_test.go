package grove_test

import (
	"slices"
	"testing"

	"grove/api"
	"grove/grove"
)

// ask makes the call that e would be the event of; what it answers beside the error is told as an int32.
func ask(s *grove.Store, e api.Event) (int32, api.Errno) {
	switch e.Kind {
	case api.Begin:
		n, err := s.Begin(e.Arg)
		return int32(n), err
	case api.Read:
		return s.Read(e.Tx, e.Arg)
	case api.Write:
		return 0, s.Write(e.Tx, e.Arg, e.Value)
	case api.Add:
		return s.Add(e.Tx, e.Arg, e.Value)
	case api.Commit:
		return 0, s.Commit(e.Tx)
	}
	return 0, s.Abort(e.Tx)
}

// answerOf: what a call answers of which e was written down.
func answerOf(e api.Event) int32 {
	switch e.Kind {
	case api.Begin:
		return int32(e.Tx)
	case api.Read:
		return e.Seen
	case api.Add:
		return round(int64(e.Seen) + int64(e.Value))
	}
	return 0
}

// look: all that a store tells, in a form that == compares.
type look struct {
	events        [61]api.Event
	count         int
	values        api.Values
	read, written [api.Objects]uint16
}

func lookAt(t *testing.T, s *grove.Store) look {
	t.Helper()
	l := look{values: s.Values()}
	h := s.History()
	l.count = len(h)
	if copy(l.events[:], h) != len(h) {
		t.Fatalf("History has %d events", len(h))
	}
	for x := range l.read {
		r, w, e := s.Holders(uint8(x))
		if e != api.OK {
			t.Fatalf("Holders(%d): %d", x, e)
		}
		l.read[x], l.written[x] = r, w
	}
	return l
}

// happen makes the calls, each of which must be answered as its event says, and be written down as that.
func happen(t *testing.T, s *grove.Store, events ...api.Event) {
	t.Helper()
	for i, e := range events {
		ahead := s.History()
		n, err := ask(s, e)
		if n != answerOf(e) || err != api.OK {
			t.Fatalf("call %d, %v, behind %v: %d, %d, want %d", i, e, ahead, n, err, answerOf(e))
		}
		if h := s.History(); !slices.Equal(h, join(ahead, list(e))) {
			t.Fatalf("call %d, %v, behind %v: History is %v", i, e, ahead, h)
		}
	}
}

func storeOf(t *testing.T, events ...api.Event) *grove.Store {
	t.Helper()
	s := grove.New()
	happen(t, s, events...)
	return s
}

// refused makes the calls, each of which must answer the error, and change nothing.
func refused(t *testing.T, s *grove.Store, want api.Errno, calls ...api.Event) {
	t.Helper()
	before := lookAt(t, s)
	for _, e := range calls {
		n, err := ask(s, e)
		if n != 0 || err != want {
			t.Errorf("the call of %v behind %v: %d, %d, want 0, %d", e, before.events[:before.count], n, err, want)
		}
		if after := lookAt(t, s); after != before {
			t.Fatalf("the refused call of %v: %v became %v", e, before, after)
		}
	}
}

func bits(txs ...uint8) uint16 {
	n := 0
	for _, tx := range txs {
		n += int([]uint16{0, 2, 4, 8, 16, 32, 64, 128, 256, 512, 1024, 2048, 4096, 8192, 16384, 32768}[tx])
	}
	return uint16(n)
}

func wantHolders(t *testing.T, s *grove.Store, x uint8, read, written uint16) {
	t.Helper()
	r, w, e := s.Holders(x)
	if r != read || w != written || e != api.OK {
		t.Errorf("behind %v: Holders(%d) = %b, %b, %d, want %b, %b", s.History(), x, r, w, e, read, written)
	}
}

func wantValues(t *testing.T, s *grove.Store, v api.Values) {
	t.Helper()
	if got := s.Values(); got != v {
		t.Errorf("behind %v: Values = %v, want %v", s.History(), got, v)
	}
}
