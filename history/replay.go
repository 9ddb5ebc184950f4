package history

import (
	"grove/api"
	"grove/tree"
)

// Replay plays a history again, with one transaction behind the other (P6).
func Replay(h []api.Event) (int, api.Values, api.Errno) {
	err, _ := Check(h)
	if err != api.OK {
		return 0, api.Values{}, err
	}
	// From here on h is a history: each Tx is at most MaxTx, each Arg that is played an object.
	var v api.Values
	order := playOrder(h)
	for _, place := range order {
		e := h[place]
		if namesSeen(e.Kind) && v[e.Arg] != e.Seen {
			return place, v, api.OK
		}
		v[e.Arg] = becomes(e)
	}
	return -1, v, api.OK
}

// playOrder: the places of the events of a history that are played, in the order in which they are.
func playOrder(h []api.Event) []int {
	var t tree.Tree
	// A commit hands what lies in a transaction to what that lies in, behind what lies there already;
	// so what is done comes to lie in 0 at last, and what is open or aborted stays where it is.
	var within [api.MaxTx + 1][]int
	for i, e := range h {
		if onObject(e.Kind) {
			within[e.Tx] = append(within[e.Tx], i)
		}
		if e.Kind == api.Commit {
			parent := t.Parent(e.Tx)
			within[parent] = append(within[parent], within[e.Tx]...)
		}
		happen(&t, e)
	}
	return within[0]
}

// becomes: what the object becomes by a Read, a Write or an Add, if what was Seen is what it was.
func becomes(e api.Event) int32 {
	switch e.Kind {
	case api.Write:
		return e.Value
	case api.Add:
		return e.Seen + e.Value
	}
	return e.Seen
}
