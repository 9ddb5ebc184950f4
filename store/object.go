package store

import (
	"grove/api"
	"grove/tree"
)

// object: who holds it, as bits, and what it is for each one that has it of its own.
// A transaction has an object of its own just if it holds it as written: both come with a Write or an Add,
// go up together with a commit, and are gone together with an abort. 0 has it of its own without holding it.
type object struct {
	read, written uint16
	own           [api.MaxTx + 1]int32
}

// keepsOut tells whether somebody who is not of the line holds it in a way that bars reading it, or writing.
func (o *object) keepsOut(line uint16, writes bool) bool {
	barring := o.written
	if writes {
		barring |= o.read
	}
	return barring&^line != 0
}

// value: what it is for the innermost one of the line.
func (o *object) value(line uint16) int32 {
	have := o.written & line
	// Of a line the innermost was begun last: so it has the highest number.
	for tx := uint8(api.MaxTx); tx > 0; tx-- {
		if have&tree.Bit(tx) != 0 {
			return o.own[tx]
		}
	}
	return o.own[0]
}

func (o *object) holdRead(tx uint8) { o.read |= tree.Bit(tx) }

func (o *object) write(tx uint8, v int32) {
	o.written |= tree.Bit(tx)
	o.own[tx] = v
}

// handUp gives all that tx holds and has to its parent; 0 has no bit, and so it holds nothing by this.
func (o *object) handUp(tx, parent uint8) {
	gone := tree.Bit(tx)
	if o.read&gone != 0 {
		o.read |= tree.Bit(parent)
	}
	if o.written&gone != 0 {
		v := o.own[tx]
		o.write(parent, v)
	}
	o.keepOnly(^gone)
}

// keepOnly takes it from all holders but these.
func (o *object) keepOnly(holders uint16) {
	o.read &= holders
	o.written &= holders
}
