package grove_test

import "grove/api"

const (
	least = -1 << 31
	most  = 1<<31 - 1
)

func begin(tx, parent uint8) api.Event {
	return api.Event{Kind: api.Begin, Tx: tx, Arg: parent}
}

func read(tx, x uint8, seen int32) api.Event {
	return api.Event{Kind: api.Read, Tx: tx, Arg: x, Seen: seen}
}

func write(tx, x uint8, value int32) api.Event {
	return api.Event{Kind: api.Write, Tx: tx, Arg: x, Value: value}
}

func add(tx, x uint8, value, seen int32) api.Event {
	return api.Event{Kind: api.Add, Tx: tx, Arg: x, Value: value, Seen: seen}
}

func commit(tx uint8) api.Event { return api.Event{Kind: api.Commit, Tx: tx} }

func abort(tx uint8) api.Event { return api.Event{Kind: api.Abort, Tx: tx} }

// whole: an event of that kind in which every number is set.
func whole(kind uint8) api.Event {
	return api.Event{Kind: kind, Tx: 1, Arg: 2, Value: 3, Seen: 4}
}

func list(events ...api.Event) []api.Event { return events }

func times(n int, e api.Event) []api.Event {
	l := make([]api.Event, n)
	for i := range l {
		l[i] = e
	}
	return l
}

// join: a fresh list, so that cases can share their parts.
func join(parts ...[]api.Event) []api.Event {
	var l []api.Event
	for _, p := range parts {
		l = append(l, p...)
	}
	return l
}

// dice: the same row of numbers at every run, so that a failure comes again.
type dice struct{ state uint64 }

func (d *dice) below(n int) int {
	d.state = d.state*6364136223846793005 + 1442695040888963407
	return int((d.state >> 33) % uint64(n))
}

// int32 falls on the ends and on small numbers as often as elsewhere.
func (d *dice) int32() int32 {
	switch d.below(4) {
	case 0:
		return []int32{least, least + 1, -1, 0, 1, most - 1, most}[d.below(7)]
	case 1:
		return int32(d.below(21) - 10)
	}
	return int32(uint32(d.below(1<<16))<<16 | uint32(d.below(1<<16)))
}
