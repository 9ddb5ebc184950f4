package grove_test

import (
	"slices"
	"strings"
	"testing"

	"grove/api"
	"grove/grove"
)

// Whatever they are handed, the calls end, and an error stands alone.
func TestAnyListAndText(t *testing.T) {
	d := dice{4}
	for range 20000 {
		h := make([]api.Event, d.below(70))
		for i := range h {
			h[i] = api.Event{Kind: uint8(d.below(256)), Tx: uint8(d.below(256)), Arg: uint8(d.below(256)), Value: d.int32(), Seen: d.int32()}
			if d.below(8) != 0 {
				h[i].Kind = uint8(1 + d.below(6))
			}
		}
		s, e := grove.Print(h)
		if e != api.OK && s != "" {
			t.Fatalf("Print(%v) = %q, %d", h, s, e)
		}
		e, place := grove.Check(h)
		wantE, wantPlace := otherCheck(h)
		if e != wantE || place != wantPlace {
			t.Fatalf("Check(%v) = %d, %d, want %d, %d", h, e, place, wantE, wantPlace)
		}
		place, values, e := otherReplay(h)
		wantReplayed(t, h, place, values, e)
		text := make([]byte, d.below(100))
		for i := range text {
			text[i] = byte(d.below(256))
		}
		l, e, line := otherParse(string(text))
		wantParsed(t, string(text), l, e, line)
	}
}

// withRoom: the events with spare room behind them, and all of that room.
func withRoom(h []api.Event) ([]api.Event, []api.Event) {
	room := join(h, times(8, whole(77)))
	return room[:len(h)], room
}

func handedIn() [][]api.Event {
	return [][]api.Event{
		list(),
		list(begin(1, 0), add(1, 2, 5, -7), commit(1)),
		list(begin(1, 0), begin(2, 1), add(2, 3, 5, 0), write(1, 0, 7), commit(2), read(1, 3, 5), commit(1)),
		list(begin(1, 0), begin(2, 0), write(1, 0, 5), read(2, 0, 0), commit(1), commit(2)),
		list(begin(1, 0), begin(2, 1), abort(1), read(2, 0, 0)),
		list(begin(1, 0), whole(api.Begin), whole(api.Commit), whole(9)),
		times(60, write(1, 1, 1)),
		times(61, write(1, 1, 1)),
		join(row(1), times(58, write(1, 1, 1)), list(commit(1))),
	}
}

func TestNothingHandedInIsWrittenInto(t *testing.T) {
	for _, events := range handedIn() {
		h, room := withRoom(events)
		before := slices.Clone(room)
		grove.Print(h)
		grove.Check(h)
		grove.Replay(h)
		if !slices.Equal(room, before) {
			t.Errorf("%v became %v", before, room)
		}
	}
}

// The answers are the same whatever was called in between, and whatever became of the list behind the call.
func TestAnswersHangOnTheArgumentsAlone(t *testing.T) {
	for _, events := range handedIn() {
		h := slices.Clone(events)
		text, textError := grove.Print(h)
		checkError, place := grove.Check(h)
		played, values, playError := grove.Replay(h)
		for i := range h {
			h[i] = whole(88)
		}
		for _, other := range handedIn() {
			grove.Print(other)
			grove.Check(other)
			grove.Replay(other)
			grove.Parse("B 1 0\nQ")
		}
		againText, againTextError := grove.Print(events)
		againCheckError, againPlace := grove.Check(events)
		if againText != text || againTextError != textError || againCheckError != checkError || againPlace != place {
			t.Errorf("%v: %q, %d, %d, %d, then %q, %d, %d, %d", events, text, textError, checkError, place, againText, againTextError, againCheckError, againPlace)
		}
		wantReplayed(t, events, played, values, playError)
	}
}

func TestParsedListsAreFresh(t *testing.T) {
	for n := 0; n <= 60; n++ {
		text := strings.Repeat("A 1 2 3 -4\n", n)
		want := times(n, add(1, 2, 3, -4))
		first, _, _ := grove.Parse(text)
		second, _, _ := grove.Parse(text)
		all := first[:cap(first)]
		for i := range all {
			all[i] = whole(99)
		}
		wantParsed(t, text, want, api.OK, 0)
		if !slices.Equal(second, want) {
			t.Errorf("%d lines: what came out was changed: %v", n, second)
		}
		grove.Parse(strings.Repeat("X 9\n", 60))
		if !slices.Equal(second, want) || !slices.Equal(first, times(n, whole(99))) {
			t.Errorf("%d lines: what came out was changed by a later call: %v, %v", n, first, second)
		}
	}
}

// filled: a store with n events.
func filled(t *testing.T, n int) *grove.Store {
	t.Helper()
	h := join(list(begin(1, 0), begin(2, 1), write(2, 0, 5), commit(2)), times(56, read(1, 0, 5)))
	return storeOf(t, h[:n]...)
}

func TestHistoriesOfAStoreAreFresh(t *testing.T) {
	for n := 0; n <= 60; n++ {
		s := filled(t, n)
		before := lookAt(t, s)
		first := s.History()
		second := s.History()
		want := slices.Clone(second)
		all := first[:cap(first)]
		for i := range all {
			all[i] = whole(99)
		}
		if l := lookAt(t, s); l != before {
			t.Errorf("%d events: behind a list that was written into: %v, want %v", n, l, before)
		}
		if !slices.Equal(second, want) {
			t.Errorf("%d events: what came out was changed: %v", n, second)
		}
		// Later events show in no earlier list, nor in its spare room.
		if n < 60 {
			happen(t, s, begin(next(n), 0))
		}
		if !slices.Equal(second, want) || !slices.Equal(all, times(len(all), whole(99))) {
			t.Errorf("%d events: what came out was changed by a later call: %v, %v", n, all, second)
		}
		third := s.History()
		for i := range second {
			second[i] = whole(98)
		}
		if !slices.Equal(third[:n], want) {
			t.Errorf("%d events: a later list was changed by way of an earlier one: %v", n, third)
		}
	}
}

// next: the number of the next transaction behind n events of filled.
func next(n int) uint8 {
	return uint8(min(n, 2) + 1)
}

// Two stores, and the other calls, are used in turn, and each store is as if it were alone.
func TestStoresKnowNothingOfOneAnother(t *testing.T) {
	d := dice{10}
	for range 30 {
		stores := []*grove.Store{grove.New(), grove.New()}
		histories := make([][]api.Event, 2)
		for range 120 {
			i := d.below(2)
			other := lookAt(t, stores[1-i])
			histories[i], _ = wantAsOther(t, stores[i], histories[i], d.call(histories[i]))
			if l := lookAt(t, stores[1-i]); l != other {
				t.Fatalf("a call of one store changed another: %v became %v", other, l)
			}
			grove.Replay(histories[i])
			grove.Check(histories[1-i])
		}
		if l := lookAt(t, grove.New()); l != (look{}) {
			t.Fatalf("a new store knows of older ones: %v", l)
		}
	}
	one, other := filled(t, 60), filled(t, 3)
	refused(t, one, api.ErrFull, commit(1))
	happen(t, other, commit(2), commit(1))
	wantValues(t, other, api.Values{5})
	wantValues(t, one, api.Values{})
	happen(t, grove.New(), begin(1, 0), read(1, 0, 0))
}

// What the other calls answer does not hang on what stores did in between.
func TestStoresChangeNoOtherAnswers(t *testing.T) {
	for _, h := range handedIn() {
		text, textError := grove.Print(h)
		place, values, e := grove.Replay(h)
		filled(t, 60)
		if again, againError := grove.Print(h); again != text || againError != textError {
			t.Errorf("Print(%v) = %q, %d, then %q, %d", h, text, textError, again, againError)
		}
		wantReplayed(t, h, place, values, e)
	}
}
