// Package store: four objects, in which transactions read, write and add, with locks, and what was written down of it.
package store

import (
	"grove/api"
	"grove/tree"
)

// Store: in its zero value nothing has happened.
type Store struct {
	txs     tree.Tree
	objects [api.Objects]object
	events  [api.MaxEvents]api.Event
	count   int
}

// Begin begins a transaction and answers its number (P9).
func (s *Store) Begin(parent uint8) (uint8, api.Errno) {
	if !s.txs.MayLieIn(parent) {
		return 0, api.ErrParent
	}
	if s.txs.Begun() >= api.MaxTx || s.isFull() {
		return 0, api.ErrFull
	}
	s.txs.Begin(parent)
	tx := s.txs.Begun()
	s.writeDown(api.Event{Kind: api.Begin, Tx: tx, Arg: parent})
	return tx, api.OK
}

// Commit ends t and gives what it holds and has to its parent (P11).
func (s *Store) Commit(t uint8) api.Errno {
	if !s.txs.IsOpen(t) {
		return api.ErrTx
	}
	if s.txs.HasOpenChild(t) {
		return api.ErrChild
	}
	if s.isFull() {
		return api.ErrFull
	}
	parent := s.txs.Parent(t)
	for x := range s.objects {
		s.objects[x].handUp(t, parent)
	}
	s.txs.Commit(t)
	s.writeDown(api.Event{Kind: api.Commit, Tx: t})
	return api.OK
}

// Abort ends t with all that lies in it; what they hold and have is gone (P11).
func (s *Store) Abort(t uint8) api.Errno {
	if !s.txs.IsOpen(t) {
		return api.ErrTx
	}
	if s.isFull() {
		return api.ErrFull
	}
	s.txs.Abort(t)
	// Who ended earlier holds nothing, so those who stay are just the open ones.
	open := s.txs.Open()
	for x := range s.objects {
		s.objects[x].keepOnly(open)
	}
	s.writeDown(api.Event{Kind: api.Abort, Tx: t})
	return api.OK
}

// Holders tells who holds x as read and who as written, by their bits (P12).
func (s *Store) Holders(x uint8) (uint16, uint16, api.Errno) {
	if x >= api.Objects {
		return 0, 0, api.ErrObject
	}
	return s.objects[x].read, s.objects[x].written, api.OK
}

// Values tells what 0 has of its own (P12).
func (s *Store) Values() api.Values {
	var v api.Values
	for x := range s.objects {
		v[x] = s.objects[x].own[0]
	}
	return v
}

// History answers all events, as a fresh list (P12).
func (s *Store) History() []api.Event {
	var h []api.Event
	for i, e := range s.events {
		if i < s.count {
			h = append(h, e)
		}
	}
	return h
}

func (s *Store) isFull() bool { return s.count >= api.MaxEvents }

// writeDown needs a store that is not full: each call asks that last, ahead of its first change.
func (s *Store) writeDown(e api.Event) {
	s.events[s.count] = e
	s.count++
}
