package grove_test

import (
	"slices"
	"testing"

	"grove/api"
	"grove/grove"
)

func wantReplayed(t *testing.T, h []api.Event, place int, v api.Values, e api.Errno) {
	t.Helper()
	gotPlace, gotValues, gotError := grove.Replay(h)
	if gotPlace != place || gotValues != v || gotError != e {
		t.Errorf("Replay(%v) = %d, %v, %d, want %d, %v, %d", h, gotPlace, gotValues, gotError, place, v, e)
	}
}

// played: a history, and what its replay finds.
type played struct {
	h     []api.Event
	place int
	v     api.Values
}

func wantAllReplayed(t *testing.T, cases []played) {
	t.Helper()
	for _, c := range cases {
		wantReplayed(t, c.h, c.place, c.v, api.OK)
	}
}

func TestReplayOfTheDocument(t *testing.T) {
	ahead := list(begin(1, 0), begin(2, 0), write(1, 0, 5), read(2, 0, 0))
	wantAllReplayed(t, []played{
		{join(ahead, list(commit(2), commit(1))), -1, api.Values{5}},
		{join(ahead, list(commit(1), commit(2))), 3, api.Values{5}},
		{join(ahead, list(commit(2), abort(1))), -1, api.Values{}},
		{join(ahead, list(abort(1), commit(2))), -1, api.Values{}},
	})
}

func TestReplayOfOneTransaction(t *testing.T) {
	wantAllReplayed(t, []played{
		{nil, -1, api.Values{}},
		{list(), -1, api.Values{}},
		{list(begin(1, 0), commit(1)), -1, api.Values{}},
		{list(begin(1, 0), read(1, 0, 0), read(1, 3, 0), commit(1)), -1, api.Values{}},
		{list(begin(1, 0), write(1, 0, 5), write(1, 1, 6), write(1, 2, 7), write(1, 3, 8), commit(1)), -1, api.Values{5, 6, 7, 8}},
		{list(begin(1, 0), write(1, 2, 5), write(1, 2, 6), read(1, 2, 6), commit(1)), -1, api.Values{0, 0, 6}},
		{list(begin(1, 0), add(1, 1, 5, 0), add(1, 1, -7, 5), read(1, 1, -2), commit(1)), -1, api.Values{0, -2}},
		{list(begin(1, 0), write(1, 1, 5), add(1, 1, 3, 5), read(1, 1, 8), read(1, 1, 8), commit(1)), -1, api.Values{0, 8}},
		{list(begin(1, 0), write(1, 1, 5), write(1, 1, 0), read(1, 1, 0), commit(1)), -1, api.Values{}},
	})
}

func TestReplayFindsWhatWasNotSeen(t *testing.T) {
	wantAllReplayed(t, []played{
		{list(begin(1, 0), read(1, 0, 1), commit(1)), 1, api.Values{}},
		{list(begin(1, 0), read(1, 3, least), commit(1)), 1, api.Values{}},
		{list(begin(1, 0), add(1, 0, 5, 1), commit(1)), 1, api.Values{}},
		{list(begin(1, 0), write(1, 0, 4), read(1, 0, 5), commit(1)), 2, api.Values{4}},
		{list(begin(1, 0), write(1, 0, 4), read(1, 0, 0), commit(1)), 2, api.Values{4}},
		{list(begin(1, 0), write(1, 0, 4), add(1, 0, 9, 3), commit(1)), 2, api.Values{4}},
		{list(begin(1, 0), add(1, 0, 4, 0), add(1, 0, 4, 0), commit(1)), 2, api.Values{4}},
		// What one object is says nothing of another.
		{list(begin(1, 0), write(1, 0, 4), read(1, 1, 4), commit(1)), 2, api.Values{4}},
		// Nothing is played behind it, and a later one is not told.
		{list(begin(1, 0), write(1, 0, 4), read(1, 0, 5), write(1, 0, 6), write(1, 1, 7), commit(1)), 2, api.Values{4}},
		{list(begin(1, 0), read(1, 0, 5), read(1, 0, 6), add(1, 0, 1, 9), commit(1)), 1, api.Values{}},
		{list(begin(1, 0), begin(2, 1), read(2, 0, 5), commit(2), write(1, 0, 1), commit(1), begin(3, 0), write(3, 1, 1), commit(3)), 2, api.Values{}},
		// The first as they are played, not as they are written down.
		{list(begin(1, 0), begin(2, 0), read(1, 0, 8), read(2, 0, 9), commit(2), commit(1)), 3, api.Values{}},
		{list(begin(1, 0), begin(2, 0), read(1, 0, 8), read(2, 0, 9), commit(1), commit(2)), 2, api.Values{}},
		{list(begin(1, 0), begin(2, 1), read(2, 0, 8), write(1, 1, 7), read(1, 0, 9), commit(2), commit(1)), 4, api.Values{0, 7}},
		{list(begin(1, 0), begin(2, 0), read(1, 0, 8), write(2, 3, 7), commit(2), commit(1)), 2, api.Values{0, 0, 0, 7}},
	})
}

func TestReplayGoesRoundAtTheEnds(t *testing.T) {
	wantAllReplayed(t, []played{
		{list(begin(1, 0), add(1, 0, most, 0), add(1, 0, 1, most), commit(1)), -1, api.Values{least}},
		{list(begin(1, 0), add(1, 0, least, 0), add(1, 0, -1, least), commit(1)), -1, api.Values{most}},
		{list(begin(1, 0), write(1, 0, least), add(1, 0, least, least), read(1, 0, 0), commit(1)), -1, api.Values{}},
		{list(begin(1, 0), write(1, 0, most), add(1, 0, most, most), read(1, 0, -2), commit(1)), -1, api.Values{-2}},
		{list(begin(1, 0), write(1, 3, most), add(1, 3, 1, most), read(1, 3, most), commit(1)), 3, api.Values{0, 0, 0, least}},
		{list(begin(1, 0), write(1, 0, most), write(1, 1, least), read(1, 0, most), read(1, 1, least), commit(1)), -1, api.Values{most, least}},
	})
}

func TestReplayOfWhatIsNotDone(t *testing.T) {
	wantAllReplayed(t, []played{
		// Not ended.
		{list(begin(1, 0)), -1, api.Values{}},
		{list(begin(1, 0), write(1, 0, 5), read(1, 0, 9), add(1, 1, 1, 9)), -1, api.Values{}},
		{list(begin(1, 0), write(1, 0, 5), begin(2, 0), read(2, 0, 0), commit(2)), -1, api.Values{}},
		{list(begin(1, 0), begin(2, 1), write(2, 0, 1), commit(2)), -1, api.Values{}},
		{list(begin(1, 0), begin(2, 1), begin(3, 2), write(3, 0, 1), commit(3), commit(2)), -1, api.Values{}},
		{list(begin(1, 0), begin(2, 1), write(2, 0, 1), commit(2), begin(3, 0), read(3, 0, 0), commit(3)), -1, api.Values{}},
		{list(begin(1, 0), begin(2, 1), write(2, 0, 1), commit(2), begin(3, 0), read(3, 0, 1), commit(3)), 5, api.Values{}},
		// Aborted.
		{list(begin(1, 0), write(1, 0, 5), read(1, 0, 9), abort(1)), -1, api.Values{}},
		{list(begin(1, 0), write(1, 0, 5), abort(1), begin(2, 0), read(2, 0, 0), commit(2)), -1, api.Values{}},
		{list(begin(1, 0), write(1, 0, 5), abort(1), begin(2, 0), read(2, 0, 5), commit(2)), 4, api.Values{}},
		// The inner one alone.
		{list(begin(1, 0), write(1, 0, 1), begin(2, 1), add(2, 0, 1, 1), abort(2), read(1, 0, 1), commit(1)), -1, api.Values{1}},
		{list(begin(1, 0), write(1, 0, 1), begin(2, 1), add(2, 0, 1, 1), abort(2), read(1, 0, 2), commit(1)), 5, api.Values{1}},
		{list(begin(1, 0), begin(2, 1), read(2, 0, 9), abort(2), commit(1)), -1, api.Values{}},
		// The outer one, with what had committed within it.
		{list(begin(1, 0), begin(2, 1), write(2, 0, 1), commit(2), abort(1)), -1, api.Values{}},
		{list(begin(1, 0), begin(2, 1), write(2, 0, 1), commit(2), abort(1), begin(3, 0), read(3, 0, 0), commit(3)), -1, api.Values{}},
		{list(begin(1, 0), begin(2, 1), begin(3, 2), write(3, 0, 1), commit(3), read(2, 0, 1), abort(2), read(1, 0, 0), commit(1)), -1, api.Values{}},
		// The outer one, with what was open within it.
		{list(begin(1, 0), begin(2, 1), begin(3, 2), write(3, 0, 1), write(2, 1, 1), abort(1), begin(4, 0), read(4, 0, 0), read(4, 1, 0), commit(4)), -1, api.Values{}},
		// One of two inner ones.
		{list(begin(1, 0), begin(2, 1), begin(3, 1), add(2, 0, 1, 0), add(3, 1, 2, 0), abort(2), commit(3), commit(1)), -1, api.Values{0, 2}},
		{list(begin(1, 0), begin(2, 1), begin(3, 1), add(2, 0, 1, 0), add(3, 1, 2, 0), commit(2), abort(3), commit(1)), -1, api.Values{1}},
	})
}

func TestReplayGoesByTheCommits(t *testing.T) {
	wantAllReplayed(t, []played{
		// Within 0.
		{list(begin(1, 0), begin(2, 0), write(1, 0, 1), write(2, 0, 2), commit(1), commit(2)), -1, api.Values{2}},
		{list(begin(1, 0), begin(2, 0), write(1, 0, 1), write(2, 0, 2), commit(2), commit(1)), -1, api.Values{1}},
		{list(begin(1, 0), begin(2, 0), begin(3, 0), add(1, 0, 1, 6), add(2, 0, 2, 0), add(3, 0, 4, 2), commit(2), commit(3), commit(1)), -1, api.Values{7}},
		// Within a transaction.
		{list(begin(1, 0), begin(2, 1), begin(3, 1), write(2, 0, 2), write(3, 0, 3), commit(3), commit(2), read(1, 0, 2), commit(1)), -1, api.Values{2}},
		{list(begin(1, 0), begin(2, 1), begin(3, 1), write(2, 0, 2), write(3, 0, 3), commit(2), commit(3), read(1, 0, 3), commit(1)), -1, api.Values{3}},
		// An inner one among its parent's own events.
		{list(begin(1, 0), begin(2, 1), write(2, 0, 1), write(1, 0, 2), read(1, 0, 2), commit(2), read(1, 0, 1), commit(1)), -1, api.Values{1}},
		{list(begin(1, 0), begin(2, 1), read(2, 0, 0), write(1, 0, 2), commit(2), commit(1)), 2, api.Values{2}},
		{list(begin(1, 0), begin(2, 1), write(2, 0, 2), commit(2), write(1, 0, 1), commit(1)), -1, api.Values{1}},
		// An inner one comes with its parent, however early it committed.
		{list(begin(1, 0), begin(2, 1), write(2, 0, 2), commit(2), begin(3, 0), read(3, 0, 0), write(3, 0, 3), commit(3), commit(1)), -1, api.Values{2}},
		{list(begin(1, 0), begin(2, 0), begin(3, 2), write(3, 0, 3), commit(3), write(1, 0, 1), commit(2), add(1, 0, 4, 1), commit(1)), -1, api.Values{5}},
		{list(begin(1, 0), begin(2, 0), begin(3, 1), begin(4, 2), add(3, 0, 1, 10), add(4, 0, 10, 0), commit(3), commit(4), commit(2), commit(1)), -1, api.Values{11}},
	})
}

// deep: n transactions in one another; each adds 1 behind the one within it, all see what they must.
func deep(n uint8) []api.Event {
	h := chain(n)
	for i := n; i >= 1; i-- {
		h = append(h, add(i, 2, 1, int32(n-i)), commit(i))
	}
	return h
}

func TestReplayOfAllTransactions(t *testing.T) {
	wantReplayed(t, deep(15), -1, api.Values{0, 0, 15}, api.OK)
	for i := range deep(15) {
		h := deep(15)
		if h[i].Kind == api.Add {
			seen := h[i].Seen
			h[i].Seen = 99
			wantReplayed(t, h, i, api.Values{0, 0, seen}, api.OK)
		}
	}
	h := deep(15)
	h[len(h)-1] = abort(1)
	wantReplayed(t, h, -1, api.Values{}, api.OK)
	wantReplayed(t, h[:len(h)-1], -1, api.Values{}, api.OK)
	wantReplayed(t, join(chain(15), list(write(15, 0, 5), abort(15), read(14, 0, 0), commit(14))), -1, api.Values{}, api.OK)

	// Side by side, with the commits in the order of the begins, and backwards.
	onwards, backwards := row(15), row(15)
	for i := uint8(1); i <= 15; i++ {
		onwards = append(onwards, add(i, 3, 1, int32(i-1)))
		backwards = append(backwards, add(i, 3, 1, int32(15-i)))
	}
	for i := uint8(1); i <= 15; i++ {
		onwards = append(onwards, commit(i))
		backwards = append(backwards, commit(16-i))
	}
	wantReplayed(t, onwards, -1, api.Values{0, 0, 0, 15}, api.OK)
	wantReplayed(t, backwards, -1, api.Values{0, 0, 0, 15}, api.OK)
}

// long: n events: one transaction that adds 1 to object 1 again and again, and commits.
func long(n int) []api.Event {
	h := row(1)
	for i := range n - 2 {
		h = append(h, add(1, 1, 1, int32(i)))
	}
	return append(h, commit(1))
}

func TestReplayLengths(t *testing.T) {
	for n := 2; n <= 60; n++ {
		wantReplayed(t, long(n), -1, api.Values{0, int32(n - 2)}, api.OK)
	}
	late := long(60)
	late[58].Seen = -1
	wantReplayed(t, late, 58, api.Values{0, 57}, api.OK)
	wantReplayed(t, long(61), 0, api.Values{}, api.ErrLong)
	wantReplayed(t, join(long(60), list(begin(2, 0))), 0, api.Values{}, api.ErrLong)
	wantReplayed(t, long(1000), 0, api.Values{}, api.ErrLong)
}

func TestReplayOfNoHistory(t *testing.T) {
	for _, ahead := range [][]api.Event{
		// What is wrong counts, whether what is ahead of it fits or not.
		list(begin(1, 0), write(1, 0, 5), commit(1), begin(2, 0), begin(3, 2)),
		list(begin(1, 0), read(1, 0, 5), commit(1), begin(2, 0), begin(3, 2)),
	} {
		for _, c := range []struct {
			wrong api.Event
			e     api.Errno
		}{
			{api.Event{}, api.ErrKind},
			{whole(7), api.ErrKind},
			{whole(255), api.ErrKind},
			{begin(3, 0), api.ErrTx},
			{begin(5, 0), api.ErrTx},
			{read(0, 0, 0), api.ErrTx},
			{read(1, 0, 5), api.ErrTx},
			{write(4, 0, 0), api.ErrTx},
			{add(16, 0, 0, 0), api.ErrTx},
			{commit(255), api.ErrTx},
			{abort(1), api.ErrTx},
			{begin(4, 1), api.ErrParent},
			{begin(4, 255), api.ErrParent},
			{read(2, 4, 0), api.ErrObject},
			{write(2, 255, 0), api.ErrObject},
			{add(2, 4, 0, 0), api.ErrObject},
			{api.Event{Kind: api.Begin, Tx: 4, Seen: 1}, api.ErrField},
			{api.Event{Kind: api.Read, Tx: 2, Value: 1}, api.ErrField},
			{api.Event{Kind: api.Write, Tx: 2, Seen: 1}, api.ErrField},
			{api.Event{Kind: api.Commit, Tx: 2, Arg: 1}, api.ErrField},
			{api.Event{Kind: api.Abort, Tx: 2, Value: 1}, api.ErrField},
			{commit(2), api.ErrChild},
		} {
			wantReplayed(t, join(ahead, list(c.wrong)), 0, api.Values{}, c.e)
			wantReplayed(t, join(ahead, list(c.wrong, abort(2))), 0, api.Values{}, c.e)
		}
	}
	for _, first := range []api.Event{{}, begin(2, 0), begin(1, 1), read(1, 0, 0), commit(0), abort(1)} {
		e, _ := otherCheck(list(first))
		wantReplayed(t, list(first), 0, api.Values{}, e)
	}
}

// done: P6's word, told from the events alone.
func done(h []api.Event, tx uint8) bool {
	for ; tx != 0; tx = parentOf(h, tx) {
		if !slices.Contains(h, commit(tx)) {
			return false
		}
	}
	return true
}

// otherPlay plays tx, or 0, by P6's words, one within the other.
func otherPlay(h []api.Event, tx uint8, v *api.Values) int {
	for i, e := range h {
		if e.Kind == api.Commit && parentOf(h, e.Tx) == tx && done(h, e.Tx) {
			if place := otherPlay(h, e.Tx, v); place != -1 {
				return place
			}
		}
		if e.Tx != tx {
			continue
		}
		switch e.Kind {
		case api.Read:
			if v[e.Arg] != e.Seen {
				return i
			}
		case api.Write:
			v[e.Arg] = e.Value
		case api.Add:
			if v[e.Arg] != e.Seen {
				return i
			}
			v[e.Arg] = round(int64(e.Seen) + int64(e.Value))
		}
	}
	return -1
}

// round: the int32 that a sum of two comes to, reckoned without an overflow.
func round(sum int64) int32 {
	if sum > most {
		sum -= 1 << 32
	}
	if sum < least {
		sum += 1 << 32
	}
	return int32(sum)
}

func otherReplay(h []api.Event) (int, api.Values, api.Errno) {
	if e, _ := otherCheck(h); e != api.OK {
		return 0, api.Values{}, e
	}
	var v api.Values
	place := otherPlay(h, 0, &v)
	return place, v, api.OK
}

// mended: h with the first n events that do not fit made to fit.
func mended(h []api.Event, n int) []api.Event {
	h = slices.Clone(h)
	for range n {
		place, v, e := otherReplay(h)
		if e != api.OK || place == -1 {
			return h
		}
		h[place].Seen = v[h[place].Arg]
	}
	return h
}

// ends: commits, mostly, of what is open behind h, inner ones ahead of outer ones, as far as there is room.
func (d *dice) ends(h []api.Event) []api.Event {
	h = slices.Clone(h)
	for tries := 0; tries < 100 && len(h) < 60; tries++ {
		e := commit(uint8(1 + d.below(15)))
		if d.below(30) == 0 {
			e.Kind = api.Abort
		}
		if otherFault(h, e) == api.OK {
			h = append(h, e)
		}
	}
	return h
}

func TestReplayOfAnyEvents(t *testing.T) {
	d := dice{5}
	errors, fits, misfits, late := 0, 0, 0, 0
	for range 20000 {
		h := d.events()
		if e, _ := otherCheck(h); e == api.OK {
			h = d.ends(h)
		}
		h = mended(h, []int{0, 1, d.below(6), 60}[d.below(4)])
		place, v, e := otherReplay(h)
		wantReplayed(t, h, place, v, e)
		switch {
		case e != api.OK:
			errors++
		case place == -1 && v != api.Values{}:
			fits++
		case place != -1 && v != api.Values{}:
			late++
		case place != -1:
			misfits++
		}
	}
	if errors < 100 || fits < 1000 || misfits < 1000 || late < 1000 {
		t.Errorf("%d with errors, %d that fit, %d that do not at first, %d that do not behind a change", errors, fits, misfits, late)
	}
}
