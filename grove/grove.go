// Package grove: transactions within transactions: see DOC.md.
package grove

import (
	"grove/api"
	"grove/history"
	"grove/store"
)

// Print writes a history as text (P3).
func Print(h []api.Event) (string, api.Errno) { return history.Print(h) }

// Parse reads a text (P4).
func Parse(s string) ([]api.Event, api.Errno, int) { return history.Parse(s) }

// Check tells whether events are a history (P5).
func Check(h []api.Event) (api.Errno, int) { return history.Check(h) }

// Replay plays a history again, one thing behind the other (P6).
func Replay(h []api.Event) (int, api.Values, api.Errno) { return history.Replay(h) }

// Store runs transactions.
type Store struct{ inner store.Store }

// New makes a store (P7).
func New() *Store { return &Store{} }

// Begin begins a transaction (P9).
func (s *Store) Begin(parent uint8) (uint8, api.Errno) { return s.inner.Begin(parent) }

// Read reads an object (P10).
func (s *Store) Read(t uint8, x uint8) (int32, api.Errno) { return s.inner.Read(t, x) }

// Write writes one (P10).
func (s *Store) Write(t uint8, x uint8, v int32) api.Errno { return s.inner.Write(t, x, v) }

// Add adds to one (P10).
func (s *Store) Add(t uint8, x uint8, d int32) (int32, api.Errno) { return s.inner.Add(t, x, d) }

// Commit ends a transaction: what it did holds (P11).
func (s *Store) Commit(t uint8) api.Errno { return s.inner.Commit(t) }

// Abort ends a transaction: what it did is undone (P11).
func (s *Store) Abort(t uint8) api.Errno { return s.inner.Abort(t) }

// Holders tells who holds an object (P12).
func (s *Store) Holders(x uint8) (uint16, uint16, api.Errno) { return s.inner.Holders(x) }

// Values tells what the objects are for all (P12).
func (s *Store) Values() api.Values { return s.inner.Values() }

// History tells what has happened (P12).
func (s *Store) History() []api.Event { return s.inner.History() }
