// Package tree: which transactions were begun, what each lies in, and which are open.
package tree

import "grove/api"

// Tree: the transactions begun so far; its zero value has none.
type Tree struct {
	begun  uint8
	parent [api.MaxTx + 1]uint8
	open   [api.MaxTx + 1]bool
}

// Begun tells how many transactions were begun: the number of the last one, too.
func (t *Tree) Begun() uint8 { return t.begun }

// Parent: what tx lies in; 0, too, if tx was not begun.
func (t *Tree) Parent(tx uint8) uint8 {
	if tx > api.MaxTx {
		return 0
	}
	return t.parent[tx]
}

// IsOpen tells whether tx is a transaction that has not ended; 0 is none.
func (t *Tree) IsOpen(tx uint8) bool {
	return tx <= api.MaxTx && t.open[tx]
}

// MayLieIn tells whether a new transaction may lie in parent.
func (t *Tree) MayLieIn(parent uint8) bool {
	return parent == 0 || t.IsOpen(parent)
}

// Begin opens the next transaction; it refuses, without a change, where there is no number or no parent for it.
func (t *Tree) Begin(parent uint8) bool {
	if t.begun >= api.MaxTx || !t.MayLieIn(parent) {
		return false
	}
	t.begun++
	t.parent[t.begun] = parent
	t.open[t.begun] = true
	return true
}

// HasOpenChild tells whether an open transaction's parent is tx.
func (t *Tree) HasOpenChild(tx uint8) bool {
	for i := 1; i <= api.MaxTx; i++ {
		if t.open[i] && t.parent[i] == tx {
			return true
		}
	}
	return false
}

// Commit ends tx alone; it refuses, without a change, where tx is not open or has an open child.
func (t *Tree) Commit(tx uint8) bool {
	if !t.IsOpen(tx) || t.HasOpenChild(tx) {
		return false
	}
	t.open[tx] = false
	return true
}

// Abort ends tx and all open transactions within it; it refuses, without a change, where tx is not open.
func (t *Tree) Abort(tx uint8) bool {
	if !t.IsOpen(tx) {
		return false
	}
	t.open[tx] = false
	// A parent is begun ahead of its children, so going upwards meets each one behind its parent;
	// and an open transaction lies in an ended one only if this abort ended that.
	for i := 1; i <= api.MaxTx; i++ {
		if t.open[i] && !t.MayLieIn(t.parent[i]) {
			t.open[i] = false
		}
	}
	return true
}
