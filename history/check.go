package history

import (
	"grove/api"
	"grove/tree"
)

// Check tells the first event that keeps the list from being a history, and why (P5).
func Check(h []api.Event) (api.Errno, int) {
	var t tree.Tree
	for i, e := range h {
		if i >= api.MaxEvents {
			return api.ErrLong, i
		}
		err := fault(&t, e)
		if err != api.OK {
			return err, i
		}
		happen(&t, e)
	}
	return api.OK, 0
}

// fault: what is wrong with an event behind those that made t; the order of the questions is P5's.
func fault(t *tree.Tree, e api.Event) api.Errno {
	if letter(e.Kind) == "" {
		return api.ErrKind
	}
	err := txFault(t, e)
	if err != api.OK {
		return err
	}
	if onObject(e.Kind) && e.Arg >= api.Objects {
		return api.ErrObject
	}
	if hasStrayField(e) {
		return api.ErrField
	}
	if e.Kind == api.Commit && t.HasOpenChild(e.Tx) {
		return api.ErrChild
	}
	return api.OK
}

// txFault: what is wrong with the transactions that an event names.
func txFault(t *tree.Tree, e api.Event) api.Errno {
	if e.Kind != api.Begin {
		if !t.IsOpen(e.Tx) {
			return api.ErrTx
		}
		return api.OK
	}
	if e.Tx > api.MaxTx || e.Tx != t.Begun()+1 {
		return api.ErrTx
	}
	if !t.MayLieIn(e.Arg) {
		return api.ErrParent
	}
	return api.OK
}

// hasStrayField tells whether a number that the kind does not name is not 0.
func hasStrayField(e api.Event) bool {
	if e.Arg != 0 && !namesArg(e.Kind) {
		return true
	}
	if e.Value != 0 && !namesValue(e.Kind) {
		return true
	}
	return e.Seen != 0 && !namesSeen(e.Kind)
}

// happen does to t what an event without a fault does.
func happen(t *tree.Tree, e api.Event) {
	switch e.Kind {
	case api.Begin:
		t.Begin(e.Arg)
	case api.Commit:
		t.Commit(e.Tx)
	case api.Abort:
		t.Abort(e.Tx)
	}
}
