// Package tree: which transactions were begun, what each lies in, and which are open.
package tree

import "grove/api"

// Tree: the transactions begun so far; its zero value has none.
type Tree struct {
	begun  uint8
	parent [api.MaxTx + 1]uint8
	open   [api.MaxTx + 1]bool
}

// Bit: what stands for tx where several are told as bits: 2^tx; 0 is no transaction and has none.
func Bit(tx uint8) uint16 {
	if tx == 0 || tx > api.MaxTx {
		return 0
	}
	return uint16(1) << tx
}

// Begun tells how many transactions were begun: the number of the last one, too.
func (t *Tree) Begun() uint8 { return t.begun }

// Parent: what tx lies in; 0, too, if tx was not begun.
func (t *Tree) Parent(tx uint8) uint8 {
	if tx > api.MaxTx {
		return 0
	}
	return t.parent[tx]
}

// IsOpen tells whether tx is a transaction that has not ended; 0 is none.
func (t *Tree) IsOpen(tx uint8) bool {
	return tx <= api.MaxTx && t.open[tx]
}

// Open: the open transactions, as bits.
func (t *Tree) Open() uint16 {
	open := uint16(0)
	for tx := uint8(api.MaxTx); tx > 0; tx-- {
		if t.open[tx] {
			open |= Bit(tx)
		}
	}
	return open
}

// Line: tx and its ancestors, as bits.
func (t *Tree) Line(tx uint8) uint16 {
	line := uint16(0)
	next := tx
	// A parent is begun ahead of its children, so going downwards meets the whole line.
	for i := uint8(api.MaxTx); i > 0; i-- {
		if i == next {
			line |= Bit(i)
			next = t.parent[i]
		}
	}
	return line
}

// MayLieIn tells whether a new transaction may lie in parent.
func (t *Tree) MayLieIn(parent uint8) bool {
	return parent == 0 || t.IsOpen(parent)
}

// Begin opens the next transaction; it refuses, without a change, where there is no number or no parent for it.
func (t *Tree) Begin(parent uint8) bool {
	if t.begun >= api.MaxTx || !t.MayLieIn(parent) {
		return false
	}
	t.begun++
	t.parent[t.begun] = parent
	t.open[t.begun] = true
	return true
}

// HasOpenChild tells whether an open transaction's parent is tx.
func (t *Tree) HasOpenChild(tx uint8) bool {
	for i := 1; i <= api.MaxTx; i++ {
		if t.open[i] && t.parent[i] == tx {
			return true
		}
	}
	return false
}

// Commit ends tx alone; it refuses, without a change, where tx is not open or has an open child.
func (t *Tree) Commit(tx uint8) bool {
	if !t.IsOpen(tx) || t.HasOpenChild(tx) {
		return false
	}
	t.open[tx] = false
	return true
}

// Abort ends tx and all open transactions within it; it refuses, without a change, where tx is not open.
func (t *Tree) Abort(tx uint8) bool {
	if !t.IsOpen(tx) {
		return false
	}
	t.open[tx] = false
	// A parent is begun ahead of its children, so going upwards meets each one behind its parent;
	// and an open transaction lies in an ended one only if this abort ended that.
	for i := 1; i <= api.MaxTx; i++ {
		if t.open[i] && !t.MayLieIn(t.parent[i]) {
			t.open[i] = false
		}
	}
	return true
}
