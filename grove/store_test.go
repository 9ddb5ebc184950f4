package grove_test

import (
	"slices"
	"testing"

	"grove/api"
	"grove/grove"
)

func TestNewStore(t *testing.T) {
	for range 3 {
		s := grove.New()
		if s == nil {
			t.Fatal("New gave no store")
		}
		if l := lookAt(t, s); l != (look{}) {
			t.Errorf("in a new store something has happened: %v", l)
		}
		happen(t, s, begin(1, 0), write(1, 0, 5), commit(1))
	}
}

func TestStoreOfTheDocument(t *testing.T) {
	s := storeOf(t, begin(1, 0), begin(2, 1), begin(3, 0), write(2, 0, 7))
	refused(t, s, api.ErrWait, read(3, 0, 0), read(1, 0, 0))
	refused(t, s, api.ErrChild, commit(1))
	happen(t, s, commit(2), read(1, 0, 7))
	refused(t, s, api.ErrWait, read(3, 0, 0))
	wantHolders(t, s, 0, 2, 2)
	happen(t, s, commit(1), read(3, 0, 7))
	wantValues(t, s, api.Values{7})
	wantHolders(t, s, 0, 8, 0)
	if n, e := s.Add(3, 1, -1); n != -1 || e != api.OK {
		t.Errorf("Add(3, 1, -1) = %d, %d", n, e)
	}
	happen(t, s, abort(3))
	wantValues(t, s, api.Values{7})
	wantHolders(t, s, 0, 0, 0)
	if h := s.History(); !slices.Equal(h, list(begin(1, 0), begin(2, 1), begin(3, 0), write(2, 0, 7), commit(2), read(1, 0, 7), commit(1), read(3, 0, 7), add(3, 1, -1, 0), abort(3))) {
		t.Errorf("History = %v", h)
	}

	s = storeOf(t, begin(1, 0), read(1, 0, 0), begin(2, 1), write(2, 0, 3), abort(2), read(1, 0, 0))
	wantHolders(t, s, 0, 2, 0)
}

func TestStoreHolds60Events(t *testing.T) {
	for _, last := range list(begin(2, 1), read(1, 1, 0), write(1, 1, 4), add(1, 1, 5, 0), commit(1), abort(1)) {
		for n := 1; n <= 60; n++ {
			s := storeOf(t, join(row(1), times(n-1, read(1, 1, 0)))...)
			if n == 60 {
				refused(t, s, api.ErrFull, last)
				continue
			}
			happen(t, s, last)
		}
	}
}

func TestFullStoreChangesNoMore(t *testing.T) {
	s := storeOf(t, begin(1, 0), begin(2, 1), begin(3, 0), begin(4, 0), write(2, 0, 7), read(3, 1, 0), read(4, 1, 0), abort(4), begin(5, 3), commit(5))
	happen(t, s, times(50, add(2, 2, 0, 0))...)
	refused(t, s, api.ErrFull, begin(0, 0), begin(0, 1), begin(0, 3), commit(2), commit(3), abort(1), abort(2), abort(3))
	refused(t, s, api.ErrFull, read(2, 0, 0), read(2, 3, 0), read(3, 1, 0), write(2, 0, 5), write(3, 1, 5), write(1, 3, 5), add(2, 2, 5, 0), add(3, 1, 5, 0))
	// ErrFull stands behind all other errors.
	refused(t, s, api.ErrParent, begin(0, 4), begin(0, 6), begin(0, 16), begin(0, 255))
	refused(t, s, api.ErrTx, read(0, 0, 0), write(4, 0, 5), add(5, 9, 5, 0), commit(6), abort(255), commit(4), abort(5))
	refused(t, s, api.ErrObject, read(1, 4, 0), write(2, 255, 5), add(3, 4, 5, 0))
	refused(t, s, api.ErrWait, read(1, 0, 0), write(2, 1, 5), add(3, 2, 5, 0))
	refused(t, s, api.ErrChild, commit(1))
	if h := s.History(); len(h) != 60 {
		t.Errorf("%d events", len(h))
	}
}

// What was refused takes no room.
func TestRefusedCallsAreNotWrittenDown(t *testing.T) {
	s := storeOf(t, begin(1, 0), begin(2, 1), write(2, 0, 7))
	for range 100 {
		refused(t, s, api.ErrParent, begin(0, 3))
		refused(t, s, api.ErrTx, read(3, 0, 0), write(0, 0, 1), add(16, 0, 1, 0), commit(3), abort(0))
		refused(t, s, api.ErrObject, read(1, 4, 0), write(1, 4, 1), add(1, 4, 1, 0))
		refused(t, s, api.ErrWait, read(1, 0, 0), write(1, 0, 1), add(1, 0, 1, 0))
		refused(t, s, api.ErrChild, commit(1))
	}
	happen(t, s, times(57, read(2, 0, 7))...)
	refused(t, s, api.ErrFull, read(2, 0, 7))
}

func TestStoreBegins15Transactions(t *testing.T) {
	for _, h := range [][]api.Event{row(15), chain(15)} {
		s := storeOf(t, h...)
		refused(t, s, api.ErrFull, begin(0, 0), begin(0, 1), begin(0, 14), begin(0, 15))
		refused(t, s, api.ErrParent, begin(0, 16), begin(0, 255))
		refused(t, s, api.ErrTx, read(16, 0, 0), write(16, 0, 1), add(16, 0, 1, 0), commit(16), abort(16))
		happen(t, s, write(15, 3, 1), commit(15))
		refused(t, s, api.ErrFull, begin(0, 0))
		refused(t, s, api.ErrParent, begin(0, 15))
		for tx := uint8(14); tx >= 1; tx-- {
			happen(t, s, abort(tx))
		}
		refused(t, s, api.ErrFull, begin(0, 0))
		refused(t, s, api.ErrParent, begin(0, 1), begin(0, 15), begin(0, 16))
	}
	// No number comes twice, though all that had one have ended.
	s := grove.New()
	for tx := uint8(1); tx <= 15; tx++ {
		happen(t, s, begin(tx, 0), []api.Event{commit(tx), abort(tx)}[tx%2])
	}
	refused(t, s, api.ErrFull, begin(0, 0))
}

// mixed: of its transactions 1, 2, 6 and 9 are open; 3 and 4 have committed, 5 and 7 were aborted, and 8 with 7.
func mixed() []api.Event {
	return list(begin(1, 0), begin(2, 1), begin(3, 1), commit(3), begin(4, 0), begin(5, 0), begin(6, 0), abort(5), commit(4), begin(7, 6), begin(8, 7), abort(7), begin(9, 2))
}

func TestStoreAsksForOpenTransactions(t *testing.T) {
	for tx := 0; tx <= 255; tx++ {
		n := uint8(tx)
		open := slices.Contains([]uint8{1, 2, 6, 9}, n)
		if open || n == 0 {
			happen(t, storeOf(t, mixed()...), begin(10, n))
		} else {
			refused(t, storeOf(t, mixed()...), api.ErrParent, begin(0, n))
		}
		if open {
			happen(t, storeOf(t, mixed()...), read(n, 0, 0), write(n, 1, 5), add(n, 1, 1, 5), abort(n))
			continue
		}
		s := storeOf(t, mixed()...)
		refused(t, s, api.ErrTx, read(n, 0, 0), write(n, 0, 1), add(n, 0, 1, 0), commit(n), abort(n))
		// ErrTx stands ahead of ErrObject.
		refused(t, s, api.ErrTx, read(n, 4, 0), write(n, 255, 1), add(n, 4, 1, 0))
	}
}

func TestStoreAsksForObjects(t *testing.T) {
	for i := 0; i <= 255; i++ {
		x := uint8(i)
		if x <= 3 {
			happen(t, storeOf(t, begin(1, 0), begin(2, 1)), read(2, x, 0), write(2, x, 5), add(2, x, 1, 5), read(2, x, 6))
			continue
		}
		s := storeOf(t, begin(1, 0), begin(2, 1), begin(3, 0), write(3, x%4, 5))
		refused(t, s, api.ErrObject, read(2, x, 0), write(2, x, 5), add(1, x, 1, 0))
		r, w, e := s.Holders(x)
		if r != 0 || w != 0 || e != api.ErrObject {
			t.Errorf("Holders(%d) = %d, %d, %d", x, r, w, e)
		}
	}
}

func TestStoreSumsGoRound(t *testing.T) {
	s := storeOf(t, begin(1, 0), add(1, 0, most, 0), add(1, 0, 1, most), read(1, 0, least), commit(1))
	wantValues(t, s, api.Values{least})
	s = storeOf(t, begin(1, 0), write(1, 3, least), add(1, 3, -1, least), read(1, 3, most), add(1, 3, most, most), read(1, 3, -2), add(1, 3, least, -2), commit(1))
	wantValues(t, s, api.Values{0, 0, 0, most - 1})
	s = storeOf(t, begin(1, 0), write(1, 1, least), begin(2, 1), add(2, 1, least, least), read(2, 1, 0), commit(2), read(1, 1, 0), add(1, 1, -1, 0), commit(1))
	wantValues(t, s, api.Values{0, -1})
}

// Each of the four objects has holders and values of its own, and so has each transaction.
func TestObjectsAreApart(t *testing.T) {
	s := storeOf(t, row(4)...)
	for x := uint8(0); x <= 3; x++ {
		happen(t, s, write(x+1, x, int32(x)+10))
	}
	for x := uint8(0); x <= 3; x++ {
		wantHolders(t, s, x, 0, bits(x+1))
		for y := uint8(0); y <= 3; y++ {
			if x != y {
				refused(t, s, api.ErrWait, read(x+1, y, 0), write(x+1, y, 0), add(x+1, y, 0, 0))
			}
		}
	}
	happen(t, s, commit(1), abort(2), commit(3))
	wantValues(t, s, api.Values{10, 0, 12})
	happen(t, s, commit(4))
	wantValues(t, s, api.Values{10, 0, 12, 13})
}

// What the three tell they tell again, and they change nothing.
func TestTellingChangesNothing(t *testing.T) {
	for n := range mixed() {
		s := storeOf(t, mixed()[:n+1]...)
		first := lookAt(t, s)
		for range 100 {
			s.Holders(4)
			s.Holders(255)
			if l := lookAt(t, s); l != first {
				t.Fatalf("%v, then %v", first, l)
			}
		}
	}
}
