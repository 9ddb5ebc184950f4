package grove_test

import (
	"slices"
	"testing"

	"grove/api"
)

// grown: 1, 6 in 0; 2, 5 in 1; 3, 4 in 2; 7 in 6; 8 in 4.
func grown() []api.Event {
	return list(begin(1, 0), begin(2, 1), begin(3, 2), begin(4, 2), begin(5, 1), begin(6, 0), begin(7, 6), begin(8, 4))
}

// lines: each of grown's transactions with its ancestors.
var lines = [][]uint8{1: {1}, 2: {2, 1}, 3: {3, 2, 1}, 4: {4, 2, 1}, 5: {5, 1}, 6: {6}, 7: {7, 6}, 8: {8, 4, 2, 1}}

// ways of holding object 2, and what the object is for the holder then.
var ways = []struct {
	calls         func(tx uint8) []api.Event
	read, written bool
	is            int32
}{
	{func(tx uint8) []api.Event { return nil }, false, false, 0},
	{func(tx uint8) []api.Event { return list(read(tx, 2, 0)) }, true, false, 0},
	{func(tx uint8) []api.Event { return list(write(tx, 2, 5)) }, false, true, 5},
	{func(tx uint8) []api.Event { return list(write(tx, 2, 0)) }, false, true, 0},
	{func(tx uint8) []api.Event { return list(add(tx, 2, 6, 0)) }, false, true, 6},
	{func(tx uint8) []api.Event { return list(add(tx, 2, 0, 0)) }, false, true, 0},
	{func(tx uint8) []api.Event { return list(read(tx, 2, 0), read(tx, 2, 0)) }, true, false, 0},
	{func(tx uint8) []api.Event { return list(read(tx, 2, 0), write(tx, 2, 7)) }, true, true, 7},
	{func(tx uint8) []api.Event { return list(read(tx, 2, 0), add(tx, 2, 8, 0)) }, true, true, 8},
	{func(tx uint8) []api.Event { return list(write(tx, 2, 9), read(tx, 2, 9)) }, true, true, 9},
	{func(tx uint8) []api.Event { return list(add(tx, 2, 3, 0), read(tx, 2, 3), write(tx, 2, 4)) }, true, true, 4},
}

// bitIf: the bit of tx, or none.
func bitIf(yes bool, tx uint8) uint16 {
	if yes {
		return bits(tx)
	}
	return 0
}

func TestWhoHolds(t *testing.T) {
	for _, way := range ways {
		for tx := uint8(1); tx <= 8; tx++ {
			s := storeOf(t, join(grown(), way.calls(tx))...)
			wantHolders(t, s, 2, bitIf(way.read, tx), bitIf(way.written, tx))
			for _, x := range []uint8{0, 1, 3} {
				wantHolders(t, s, x, 0, 0)
			}
			wantValues(t, s, api.Values{})
			happen(t, s, read(tx, 2, way.is))
		}
	}
}

// Each of grown's transactions asks for what each one holds in each way.
func TestWhoWaits(t *testing.T) {
	for _, way := range ways {
		for holder := uint8(1); holder <= 8; holder++ {
			for tx := uint8(1); tx <= 8; tx++ {
				outside := !slices.Contains(lines[tx], holder)
				h := join(grown(), way.calls(holder))
				readHeld, writtenHeld := bitIf(way.read, holder), bitIf(way.written, holder)

				s := storeOf(t, h...)
				if outside && way.written {
					refused(t, s, api.ErrWait, read(tx, 2, 0))
				} else {
					seen := way.is
					if outside {
						seen = 0
					}
					happen(t, s, read(tx, 2, seen))
					wantHolders(t, s, 2, readHeld|bits(tx), writtenHeld)
				}

				s = storeOf(t, h...)
				if outside && (way.read || way.written) {
					refused(t, s, api.ErrWait, write(tx, 2, 1), add(tx, 2, 1, 0))
				} else {
					seen := way.is
					if outside {
						seen = 0
					}
					happen(t, s, add(tx, 2, 1, seen))
					wantHolders(t, s, 2, readHeld, writtenHeld|bits(tx))
					happen(t, s, write(tx, 2, 20), read(tx, 2, 20))
				}
				// What is held of one object bars no other.
				happen(t, s, read(tx, 1, 0), write(tx, 3, 1), add(tx, 0, 1, 0))
			}
		}
	}
}

// Several holders: one alone outside the line is enough to wait for.
func TestManyHolders(t *testing.T) {
	s := storeOf(t, join(grown(), list(read(1, 2, 0), read(2, 2, 0), read(8, 2, 0), read(6, 2, 0)))...)
	wantHolders(t, s, 2, bits(1, 2, 8, 6), 0)
	refused(t, s, api.ErrWait, write(8, 2, 1), add(7, 2, 1, 0), write(6, 2, 1))
	happen(t, s, abort(6))
	refused(t, s, api.ErrWait, write(4, 2, 1), add(2, 2, 1, 0), write(1, 2, 1), write(3, 2, 1))
	happen(t, s, write(8, 2, 1))
	wantHolders(t, s, 2, bits(1, 2, 8), bits(8))

	s = storeOf(t, row(15)...)
	var all uint16
	for tx := uint8(1); tx <= 15; tx++ {
		happen(t, s, read(tx, 0, 0))
		all |= bits(tx)
		wantHolders(t, s, 0, all, 0)
	}
	for tx := uint8(1); tx < 15; tx++ {
		refused(t, s, api.ErrWait, write(15, 0, 1), add(tx, 0, 1, 0))
		happen(t, s, []api.Event{commit(tx), abort(tx)}[tx%2])
		all &^= bits(tx)
		wantHolders(t, s, 0, all, 0)
	}
	happen(t, s, write(15, 0, 1))
	wantHolders(t, s, 0, bits(15), bits(15))
}

// A child holds in a way and commits, behind a parent that held in a way ahead of it.
func TestCommitHandsUp(t *testing.T) {
	for _, above := range ways {
		for _, below := range ways {
			h := join(list(begin(1, 0), begin(2, 1)), above.calls(2), list(begin(3, 2)))
			s := storeOf(t, h...)
			for _, e := range below.calls(3) {
				ask(s, e)
			}
			is, _ := ask(s, read(3, 2, 0))
			wantHolders(t, s, 2, bitIf(above.read, 2)|bits(3), bitIf(above.written, 2)|bitIf(below.written, 3))
			happen(t, s, commit(3))
			wantHolders(t, s, 2, bits(2), bitIf(above.written || below.written, 2))
			wantValues(t, s, api.Values{})
			happen(t, s, read(2, 2, is), commit(2))
			wantHolders(t, s, 2, bits(1), bitIf(above.written || below.written, 1))
			wantValues(t, s, api.Values{})
			happen(t, s, read(1, 2, is), commit(1))
			wantHolders(t, s, 2, 0, 0)
			wantValues(t, s, api.Values{0, 0, is})
		}
	}
}

// As TestCommitHandsUp, where nothing but the child's way itself can make the parent a holder.
func TestCommitHandsUpAsItWasHeld(t *testing.T) {
	for _, way := range ways {
		s := storeOf(t, join(list(begin(1, 0), begin(2, 1), begin(3, 1)), way.calls(2), list(commit(2)))...)
		wantHolders(t, s, 2, bitIf(way.read, 1), bitIf(way.written, 1))
		wantValues(t, s, api.Values{})
		// A sibling finds it with their parent now.
		happen(t, s, add(3, 2, 1, way.is), commit(3), begin(4, 0))
		refused(t, s, api.ErrWait, read(4, 2, 0), write(4, 2, 1), add(4, 2, 1, 0))
		happen(t, s, commit(1), read(4, 2, way.is+1))
		wantHolders(t, s, 2, bits(4), 0)
		wantValues(t, s, api.Values{0, 0, way.is + 1})

		s = storeOf(t, join(list(begin(1, 0), begin(2, 0)), way.calls(1), list(commit(1)))...)
		wantHolders(t, s, 2, 0, 0)
		wantValues(t, s, api.Values{0, 0, way.is})
		happen(t, s, write(2, 2, 30), abort(2))
		wantValues(t, s, api.Values{0, 0, way.is})
	}
}

// A child that only read leaves its parent's object as it was, and takes nothing to 0.
func TestCommitOfAReader(t *testing.T) {
	s := storeOf(t, begin(1, 0), write(1, 0, 5), begin(2, 1), read(2, 0, 5), commit(2), read(1, 0, 5))
	wantHolders(t, s, 0, bits(1), bits(1))
	happen(t, s, begin(3, 1), write(3, 1, 6), commit(3), read(1, 0, 5), read(1, 1, 6), commit(1))
	wantValues(t, s, api.Values{5, 6})
	happen(t, s, begin(4, 0), read(4, 0, 5), read(4, 2, 0), commit(4))
	wantValues(t, s, api.Values{5, 6})
}

func TestAbortUndoes(t *testing.T) {
	for _, above := range ways {
		for _, below := range ways {
			s := storeOf(t, join(list(begin(1, 0), begin(2, 1)), above.calls(2), list(begin(3, 2), begin(4, 3), begin(5, 3)))...)
			for _, e := range below.calls(4) {
				ask(s, e)
			}
			happen(t, s, commit(4))
			for _, e := range below.calls(5) {
				ask(s, e)
			}
			happen(t, s, abort(3))
			refused(t, s, api.ErrTx, read(3, 2, 0), read(4, 2, 0), read(5, 2, 0), commit(5), abort(5), abort(3))
			wantHolders(t, s, 2, bitIf(above.read, 2), bitIf(above.written, 2))
			happen(t, s, read(2, 2, above.is), abort(1))
			wantHolders(t, s, 2, 0, 0)
			wantValues(t, s, api.Values{})
			happen(t, s, begin(6, 0), read(6, 2, 0), add(6, 2, 1, 0), commit(6))
			wantValues(t, s, api.Values{0, 0, 1})
		}
	}
}

// Of grown's transactions each one is aborted, all having written an object that bars nobody, or read.
func TestWhomAnAbortEnds(t *testing.T) {
	for tx := uint8(1); tx <= 8; tx++ {
		h := grown()
		for _, n := range []uint8{1, 2, 4, 8} {
			h = append(h, write(n, 1, int32(n)))
		}
		for n := uint8(1); n <= 8; n++ {
			h = append(h, read(n, 0, 0))
		}
		h = append(h, write(7, 3, 7))
		s := storeOf(t, join(h, list(abort(tx)))...)
		var left []uint8
		for n := uint8(1); n <= 8; n++ {
			if slices.Contains(lines[n], tx) {
				refused(t, s, api.ErrTx, read(n, 0, 0), write(n, 0, 1), add(n, 0, 1, 0), commit(n), abort(n))
				refused(t, s, api.ErrParent, begin(0, n))
			} else {
				left = append(left, n)
			}
		}
		wantHolders(t, s, 0, bits(left...), 0)
		var writers []uint8
		for _, n := range left {
			if n == 1 || n == 2 || n == 4 || n == 8 {
				writers = append(writers, n)
			}
		}
		wantHolders(t, s, 1, 0, bits(writers...))
		wantHolders(t, s, 3, 0, bitIf(slices.Contains(left, 7), 7))
		for i, n := range writers {
			if i == len(writers)-1 {
				happen(t, s, read(n, 1, int32(n)))
			}
		}
		for _, n := range left {
			happen(t, s, read(n, 0, 0))
		}
		wantValues(t, s, api.Values{})
	}
}

func TestCommitErrors(t *testing.T) {
	s := storeOf(t, grown()...)
	refused(t, s, api.ErrChild, commit(1), commit(2), commit(4), commit(6))
	happen(t, s, commit(8), commit(4))
	refused(t, s, api.ErrTx, commit(8), commit(4), abort(8), abort(4), commit(0), commit(9), commit(255), abort(0), abort(9), abort(255))
	refused(t, s, api.ErrChild, commit(1), commit(2), commit(6))
	happen(t, s, abort(3), commit(2))
	refused(t, s, api.ErrChild, commit(1))
	happen(t, s, abort(5), commit(1), abort(7), commit(6))
	refused(t, s, api.ErrTx, commit(1), commit(6), abort(1), abort(6))
	// One that was ended with another does not keep what is above that from its commit.
	s = storeOf(t, join(grown(), list(abort(2), commit(5), commit(1)))...)
	refused(t, s, api.ErrChild, commit(6))
	// Nor does one that lies in what ended keep anybody else.
	s = storeOf(t, begin(1, 0), begin(2, 0), begin(3, 1), commit(2))
	refused(t, s, api.ErrChild, commit(1))
}

func TestFifteenInOneAnother(t *testing.T) {
	s := storeOf(t, chain(15)...)
	var all []uint8
	for tx := uint8(1); tx <= 15; tx++ {
		all = append(all, tx)
		happen(t, s, add(tx, 3, 1, int32(tx)-1))
		wantHolders(t, s, 3, 0, bits(all...))
	}
	happen(t, s, read(15, 3, 15))
	wantHolders(t, s, 3, bits(15), bits(all...))
	for tx := uint8(15); tx > 1; tx-- {
		refused(t, s, api.ErrChild, commit(tx-1))
		refused(t, s, api.ErrWait, read(tx-1, 3, 0), write(tx-1, 3, 1), add(tx-1, 3, 1, 0))
		if tx == 8 {
			happen(t, s, abort(8), read(7, 3, 7))
			continue
		}
		is := int32(15)
		if tx < 8 {
			is = 7
		}
		happen(t, s, commit(tx), read(tx-1, 3, is))
		wantHolders(t, s, 3, bits(tx-1), bits(all[:tx-1]...))
	}
	happen(t, s, commit(1))
	wantHolders(t, s, 3, 0, 0)
	wantValues(t, s, api.Values{0, 0, 0, 7})

	// The innermost sees what the outermost has, past all that have nothing of their own.
	s = storeOf(t, join(chain(15), list(write(1, 0, 5), read(15, 0, 5), add(15, 0, 1, 5), read(15, 0, 6), abort(15), read(14, 0, 5), abort(1)))...)
	wantHolders(t, s, 0, 0, 0)
	wantValues(t, s, api.Values{})
}

// What 0 has is seen by all, until one in their line has the object of its own.
func TestWhatAnObjectIs(t *testing.T) {
	s := storeOf(t, begin(1, 0), write(1, 0, 5), write(1, 1, 6), commit(1), begin(2, 0), begin(3, 2), begin(4, 3))
	happen(t, s, read(4, 0, 5), read(3, 0, 5), read(2, 0, 5), write(2, 1, 7), read(4, 1, 7), abort(4))
	happen(t, s, begin(5, 3), add(5, 1, 10, 7), read(5, 1, 17), commit(5), read(3, 1, 17))
	wantValues(t, s, api.Values{5, 6})
	happen(t, s, abort(3), read(2, 1, 7), begin(6, 2), write(6, 1, 0), read(6, 1, 0), commit(6), read(2, 1, 0))
	wantValues(t, s, api.Values{5, 6})
	happen(t, s, commit(2))
	wantValues(t, s, api.Values{5, 0})
	happen(t, s, begin(7, 0), read(7, 1, 0), write(7, 1, 9), write(7, 0, 9), abort(7))
	wantValues(t, s, api.Values{5, 0})
}
