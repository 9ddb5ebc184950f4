package store

import "grove/api"

// Read answers what x is for t, which holds it as read from then on (P10).
func (s *Store) Read(t uint8, x uint8) (int32, api.Errno) {
	err := s.accessFault(t, x, false)
	if err != api.OK {
		return 0, err
	}
	seen := s.valueFor(t, x)
	s.objects[x].holdRead(t)
	s.writeDown(api.Event{Kind: api.Read, Tx: t, Arg: x, Seen: seen})
	return seen, api.OK
}

// Write makes v what x is for t, which holds it as written from then on (P10).
func (s *Store) Write(t uint8, x uint8, v int32) api.Errno {
	err := s.accessFault(t, x, true)
	if err != api.OK {
		return err
	}
	s.objects[x].write(t, v)
	s.writeDown(api.Event{Kind: api.Write, Tx: t, Arg: x, Value: v})
	return api.OK
}

// Add adds d to what x is for t, which holds it as written from then on, and answers the sum (P10).
func (s *Store) Add(t uint8, x uint8, d int32) (int32, api.Errno) {
	err := s.accessFault(t, x, true)
	if err != api.OK {
		return 0, err
	}
	seen := s.valueFor(t, x)
	sum := seen + d
	s.objects[x].write(t, sum)
	s.writeDown(api.Event{Kind: api.Add, Tx: t, Arg: x, Value: d, Seen: seen})
	return sum, api.OK
}

// accessFault: why t may not read x, or not write it; the order of the questions is P10's, with P8's at the end.
func (s *Store) accessFault(t uint8, x uint8, writes bool) api.Errno {
	if !s.txs.IsOpen(t) {
		return api.ErrTx
	}
	if x >= api.Objects {
		return api.ErrObject
	}
	line := s.txs.Line(t)
	if s.objects[x].keepsOut(line, writes) {
		return api.ErrWait
	}
	if s.isFull() {
		return api.ErrFull
	}
	return api.OK
}

func (s *Store) valueFor(t uint8, x uint8) int32 {
	line := s.txs.Line(t)
	return s.objects[x].value(line)
}
