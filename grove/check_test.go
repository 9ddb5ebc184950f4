package grove_test

import (
	"testing"

	"grove/api"
	"grove/grove"
)

func wantChecked(t *testing.T, h []api.Event, e api.Errno, place int) {
	t.Helper()
	gotError, gotPlace := grove.Check(h)
	if gotError != e || gotPlace != place {
		t.Errorf("Check(%v) = %d, %d, want %d, %d", h, gotError, gotPlace, e, place)
	}
}

// chain: n transactions, each within the one ahead of it.
func chain(n uint8) []api.Event {
	var l []api.Event
	for i := uint8(1); i <= n; i++ {
		l = append(l, begin(i, i-1))
	}
	return l
}

// row: n transactions, all within 0.
func row(n uint8) []api.Event {
	var l []api.Event
	for i := uint8(1); i <= n; i++ {
		l = append(l, begin(i, 0))
	}
	return l
}

func TestCheckHistories(t *testing.T) {
	var upwards []api.Event
	for i := uint8(15); i >= 1; i-- {
		upwards = append(upwards, commit(i))
	}
	for _, h := range [][]api.Event{
		nil,
		list(),
		list(begin(1, 0)),
		list(begin(1, 0), add(1, 2, 5, -7), commit(1)),
		list(begin(1, 0), begin(2, 1), begin(3, 2), begin(4, 1), begin(5, 0)),
		list(begin(1, 0), read(1, 0, 5), write(1, 3, -5), add(1, 2, 1, 9), abort(1)),
		list(begin(1, 0), read(1, 3, least), write(1, 0, most), add(1, 3, most, least)),
		list(begin(1, 0), commit(1), begin(2, 0), abort(2), begin(3, 0)),
		row(15),
		chain(15),
		join(chain(15), upwards),
		join(chain(15), list(abort(1))),
		join(chain(15), list(read(15, 0, 0), abort(15), read(14, 0, 0))),
		join(row(1), times(59, write(1, 1, 1))),
	} {
		wantChecked(t, h, api.OK, 0)
	}
}

func TestCheckLengths(t *testing.T) {
	full := join(row(1), times(59, write(1, 1, 1)))
	wantChecked(t, full, api.OK, 0)
	for _, e := range []api.Event{commit(1), {}, {Kind: 9}, begin(9, 9), read(1, 9, 0), whole(api.Commit)} {
		wantChecked(t, join(full, list(e)), api.ErrLong, 60)
		wantChecked(t, join(full, times(1000, e)), api.ErrLong, 60)
	}
	// An event ahead of the 61st comes first.
	wantChecked(t, join(full[:59], list(commit(2)), times(9, commit(1))), api.ErrTx, 59)
	wantChecked(t, times(61, commit(1)), api.ErrTx, 0)
}

func TestCheckKinds(t *testing.T) {
	for k := 0; k <= 255; k++ {
		if k >= 1 && k <= 6 {
			continue
		}
		kind := uint8(k)
		wantChecked(t, list(api.Event{Kind: kind}), api.ErrKind, 0)
		// Whatever else is wrong with it.
		wantChecked(t, list(begin(1, 0), api.Event{Kind: kind, Tx: 99, Arg: 99, Value: 1, Seen: 1}), api.ErrKind, 1)
		wantChecked(t, list(begin(1, 0), api.Event{Kind: kind, Tx: 1}), api.ErrKind, 1)
	}
}

func TestCheckBegin(t *testing.T) {
	for _, c := range []struct {
		h     []api.Event
		e     api.Errno
		place int
	}{
		{list(begin(2, 0)), api.ErrTx, 0},
		{list(begin(0, 0)), api.ErrTx, 0},
		{list(begin(255, 0)), api.ErrTx, 0},
		{list(begin(1, 0), begin(1, 0)), api.ErrTx, 1},
		{list(begin(1, 0), begin(0, 0)), api.ErrTx, 1},
		{list(begin(1, 0), begin(3, 0)), api.ErrTx, 1},
		{list(begin(1, 0), commit(1), begin(1, 0)), api.ErrTx, 2},
		{list(begin(1, 0), abort(1), begin(1, 0)), api.ErrTx, 2},
		{join(row(15), list(begin(16, 0))), api.ErrTx, 15},
		{join(row(15), list(begin(16, 16))), api.ErrTx, 15},
		{join(row(15), list(begin(15, 0))), api.ErrTx, 15},
		{join(row(15), list(begin(1, 0))), api.ErrTx, 15},
		{join(row(15), list(begin(0, 0))), api.ErrTx, 15},
		{join(chain(15), list(abort(1), begin(16, 0))), api.ErrTx, 16},
		{join(row(14), list(begin(15, 14))), api.OK, 0},
		{list(begin(1, 1)), api.ErrParent, 0},
		{list(begin(1, 2)), api.ErrParent, 0},
		{list(begin(1, 15)), api.ErrParent, 0},
		{list(begin(1, 16)), api.ErrParent, 0},
		{list(begin(1, 255)), api.ErrParent, 0},
		{list(begin(1, 0), begin(2, 2)), api.ErrParent, 1},
		{list(begin(1, 0), begin(2, 3)), api.ErrParent, 1},
		{join(row(14), list(begin(15, 15))), api.ErrParent, 14},
		{list(begin(1, 0), commit(1), begin(2, 1)), api.ErrParent, 2},
		{list(begin(1, 0), abort(1), begin(2, 1)), api.ErrParent, 2},
		{list(begin(1, 0), begin(2, 1), abort(1), begin(3, 2)), api.ErrParent, 3},
		// The number is asked for ahead of the parent, the parent ahead of the rest.
		{list(begin(2, 9)), api.ErrTx, 0},
		{list(api.Event{Kind: api.Begin, Tx: 2, Arg: 9, Value: 1}), api.ErrTx, 0},
		{list(api.Event{Kind: api.Begin, Tx: 1, Arg: 9, Value: 1}), api.ErrParent, 0},
		{list(api.Event{Kind: api.Begin, Tx: 1, Arg: 9, Seen: 1}), api.ErrParent, 0},
		// 4 is no object, but Begin names none.
		{join(row(5), list(begin(6, 4), begin(7, 5))), api.OK, 0},
	} {
		wantChecked(t, c.h, c.e, c.place)
	}
}

func TestCheckAsksForAnOpenTransaction(t *testing.T) {
	for kind := api.Read; kind <= api.Abort; kind++ {
		for _, c := range []struct {
			ahead []api.Event
			tx    uint8
		}{
			{nil, 0}, {nil, 1}, {nil, 255},
			{row(1), 0}, {row(1), 2}, {row(1), 15}, {row(1), 16}, {row(1), 17}, {row(1), 255},
			{row(15), 0}, {row(15), 16}, {row(15), 31}, {row(15), 255},
			{list(begin(1, 0), commit(1)), 1},
			{list(begin(1, 0), abort(1)), 1},
			{list(begin(1, 0), begin(2, 1), commit(2)), 2},
			{list(begin(1, 0), begin(2, 1), abort(1)), 2},
			{join(chain(15), list(abort(1))), 15},
		} {
			wantChecked(t, join(c.ahead, list(api.Event{Kind: kind, Tx: c.tx})), api.ErrTx, len(c.ahead))
			// Ahead of whatever else is wrong.
			wantChecked(t, join(c.ahead, list(api.Event{Kind: kind, Tx: c.tx, Arg: 9, Value: 1, Seen: 1})), api.ErrTx, len(c.ahead))
		}
		for tx := uint8(1); tx <= 15; tx++ {
			wantChecked(t, join(row(15), list(api.Event{Kind: kind, Tx: tx})), api.OK, 0)
		}
	}
}

func TestCheckObjects(t *testing.T) {
	for kind := api.Read; kind <= api.Add; kind++ {
		for x := 0; x <= 255; x++ {
			h := list(begin(1, 0), api.Event{Kind: kind, Tx: 1, Arg: uint8(x)})
			if x <= 3 {
				wantChecked(t, h, api.OK, 0)
			} else {
				wantChecked(t, h, api.ErrObject, 1)
			}
		}
		// The object is asked for ahead of the fields.
		wantChecked(t, list(begin(1, 0), api.Event{Kind: kind, Tx: 1, Arg: 4, Value: 1, Seen: 1}), api.ErrObject, 1)
	}
}

func TestCheckFields(t *testing.T) {
	for kind := api.Begin; kind <= api.Abort; kind++ {
		ahead := row(1)
		plain := api.Event{Kind: kind, Tx: 1}
		if kind == api.Begin {
			plain.Tx = 2
		}
		wantChecked(t, join(ahead, list(plain)), api.OK, 0)
		for _, n := range []int32{1, -1, 256, least, most} {
			value, seen := plain, plain
			value.Value = n
			seen.Seen = n
			wantField(t, join(ahead, list(value)), kind == api.Write || kind == api.Add)
			wantField(t, join(ahead, list(seen)), kind == api.Read || kind == api.Add)
		}
		arg := plain
		arg.Arg = 1
		wantField(t, join(ahead, list(arg)), kind <= api.Add)
		arg.Arg = 255
		if kind > api.Add {
			wantField(t, join(ahead, list(arg)), false)
		}
	}
	// The fields are asked for ahead of the children.
	for _, e := range []api.Event{{Kind: api.Commit, Tx: 1, Arg: 1}, {Kind: api.Commit, Tx: 1, Value: 1}, {Kind: api.Commit, Tx: 1, Seen: 1}} {
		wantChecked(t, join(chain(2), list(e)), api.ErrField, 2)
	}
}

// wantField: whether the last event may have the number that it has.
func wantField(t *testing.T, h []api.Event, named bool) {
	t.Helper()
	if named {
		wantChecked(t, h, api.OK, 0)
	} else {
		wantChecked(t, h, api.ErrField, len(h)-1)
	}
}

func TestCheckChildren(t *testing.T) {
	for _, c := range []struct {
		h     []api.Event
		e     api.Errno
		place int
	}{
		{list(begin(1, 0), begin(2, 1), commit(1)), api.ErrChild, 2},
		{list(begin(1, 0), begin(2, 1), begin(3, 2), commit(3), commit(1)), api.ErrChild, 4},
		{list(begin(1, 0), begin(2, 1), begin(3, 1), commit(2), commit(1)), api.ErrChild, 4},
		{list(begin(1, 0), begin(2, 1), begin(3, 1), abort(3), commit(1)), api.ErrChild, 4},
		{join(chain(15), list(commit(14))), api.ErrChild, 15},
		{join(row(14), list(begin(15, 1), commit(1))), api.ErrChild, 15},
		{join(row(14), list(begin(15, 1), commit(2))), api.OK, 0},
		{list(begin(1, 0), begin(2, 1), commit(2), commit(1)), api.OK, 0},
		{list(begin(1, 0), begin(2, 1), abort(2), commit(1)), api.OK, 0},
		{list(begin(1, 0), begin(2, 1), begin(3, 2), abort(2), commit(1)), api.OK, 0},
		{list(begin(1, 0), begin(2, 0), commit(1)), api.OK, 0},
		// An abort asks for no children.
		{list(begin(1, 0), begin(2, 1), abort(1)), api.OK, 0},
	} {
		wantChecked(t, c.h, c.e, c.place)
	}
}

func TestCheckWhatAnAbortEnds(t *testing.T) {
	//  1 - 2 - 4 - 7
	//    |   \ 5 (committed)
	//    \ 3 - 6
	//  8 - 9
	trees := list(begin(1, 0), begin(2, 1), begin(3, 1), begin(4, 2), begin(5, 2), begin(6, 3), begin(7, 4), begin(8, 0), begin(9, 8), commit(5))
	for _, c := range []struct {
		aborted uint8
		open    []uint8
	}{
		{1, []uint8{8, 9}},
		{2, []uint8{1, 3, 6, 8, 9}},
		{3, []uint8{1, 2, 4, 7, 8, 9}},
		{4, []uint8{1, 2, 3, 6, 8, 9}},
		{6, []uint8{1, 2, 3, 4, 7, 8, 9}},
		{7, []uint8{1, 2, 3, 4, 6, 8, 9}},
		{8, []uint8{1, 2, 3, 4, 6, 7}},
		{9, []uint8{1, 2, 3, 4, 6, 7, 8}},
	} {
		h := join(trees, list(abort(c.aborted)))
		for tx := uint8(1); tx <= 9; tx++ {
			open := false
			for _, o := range c.open {
				open = open || o == tx
			}
			wantOpen(t, h, tx, open)
		}
	}
}

func wantOpen(t *testing.T, h []api.Event, tx uint8, open bool) {
	t.Helper()
	if open {
		wantChecked(t, join(h, list(read(tx, 0, 0), begin(10, tx))), api.OK, 0)
		return
	}
	wantChecked(t, join(h, list(read(tx, 0, 0))), api.ErrTx, len(h))
	wantChecked(t, join(h, list(abort(tx))), api.ErrTx, len(h))
	wantChecked(t, join(h, list(begin(10, tx))), api.ErrParent, len(h))
}

// ended: told from the events alone: tx has an end of its own, or one above it was aborted.
func ended(h []api.Event, tx uint8) bool {
	for _, e := range h {
		if e.Tx == tx && (e.Kind == api.Commit || e.Kind == api.Abort) {
			return true
		}
	}
	for up := parentOf(h, tx); up != 0; up = parentOf(h, up) {
		for _, e := range h {
			if e.Tx == up && e.Kind == api.Abort {
				return true
			}
		}
	}
	return false
}

func parentOf(h []api.Event, tx uint8) uint8 {
	for _, e := range h {
		if e.Kind == api.Begin && e.Tx == tx {
			return e.Arg
		}
	}
	return 0
}

func begunOf(h []api.Event) int {
	n := 0
	for _, e := range h {
		if e.Kind == api.Begin {
			n++
		}
	}
	return n
}

func isOpen(h []api.Event, tx uint8) bool {
	return tx >= 1 && int(tx) <= begunOf(h) && !ended(h, tx)
}

// otherFault: P5's errors of the event behind the history h, told without keeping anything from event to event.
func otherFault(h []api.Event, e api.Event) api.Errno {
	plain := named(e)
	switch {
	case len(h) == 60:
		return api.ErrLong
	case e.Kind == 0 || e.Kind > 6:
		return api.ErrKind
	case e.Kind == api.Begin && (int(e.Tx) != begunOf(h)+1 || e.Tx > 15):
		return api.ErrTx
	case e.Kind == api.Begin && e.Arg != 0 && !isOpen(h, e.Arg):
		return api.ErrParent
	case e.Kind != api.Begin && !isOpen(h, e.Tx):
		return api.ErrTx
	case e.Kind >= api.Read && e.Kind <= api.Add && e.Arg > 3:
		return api.ErrObject
	case plain != e:
		return api.ErrField
	}
	for tx := uint8(1); e.Kind == api.Commit && tx <= 15; tx++ {
		if isOpen(h, tx) && parentOf(h, tx) == e.Tx {
			return api.ErrChild
		}
	}
	return api.OK
}

func otherCheck(h []api.Event) (api.Errno, int) {
	for i, e := range h {
		if fault := otherFault(h[:i], e); fault != api.OK {
			return fault, i
		}
	}
	return api.OK, 0
}

// event: mostly one that might stand behind h, sometimes any.
func (d *dice) event(h []api.Event) api.Event {
	e := api.Event{Kind: []uint8{1, 2, 3, 4, 2, 3, 4, 5, 6}[d.below(9)], Tx: uint8(1 + d.below(begunOf(h)+1)), Arg: uint8(d.below(4)), Value: d.int32(), Seen: d.int32()}
	if e.Kind == api.Begin {
		e.Tx = uint8(begunOf(h) + 1)
		e.Arg = uint8(d.below(int(e.Tx)))
	}
	e = named(e)
	switch d.below(60) {
	case 0:
		e.Kind = uint8(d.below(9))
	case 1:
		e.Tx = uint8(d.below(18))
	case 2:
		e.Arg = uint8(d.below(18))
	case 3:
		e.Value = d.int32()
	case 4:
		e.Seen = d.int32()
	}
	return e
}

// events: a history, and often wrong events behind it.
func (d *dice) events() []api.Event {
	var h []api.Event
	for range d.below(64) {
		e := d.event(h)
		// Most wrong events are thrown again, so that there are long histories too.
		for otherFault(h, e) != api.OK && len(h) < 60 && d.below(200) != 0 {
			e = d.event(h)
		}
		fault := otherFault(h, e)
		h = append(h, e)
		if fault != api.OK {
			// What follows is past asking, as otherFault wants a history.
			return join(h, times(d.below(3), e), list(whole(9)))
		}
	}
	return h
}

func TestCheckOfAnyEvents(t *testing.T) {
	d := dice{3}
	seen := map[api.Errno]int{}
	for range 20000 {
		h := d.events()
		e, place := otherCheck(h)
		wantChecked(t, h, e, place)
		seen[e]++
	}
	for _, e := range []api.Errno{api.OK, api.ErrLong, api.ErrKind, api.ErrTx, api.ErrParent, api.ErrObject, api.ErrField, api.ErrChild} {
		if seen[e] < 10 {
			t.Errorf("only %d lists with the error %d", seen[e], e)
		}
	}
}
