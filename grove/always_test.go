package grove_test

import (
	"slices"
	"strings"
	"testing"

	"grove/api"
	"grove/grove"
)

// Whatever they are handed, the calls end, and an error stands alone.
func TestAnyListAndText(t *testing.T) {
	d := dice{4}
	for range 20000 {
		h := make([]api.Event, d.below(70))
		for i := range h {
			h[i] = api.Event{Kind: uint8(d.below(256)), Tx: uint8(d.below(256)), Arg: uint8(d.below(256)), Value: d.int32(), Seen: d.int32()}
			if d.below(8) != 0 {
				h[i].Kind = uint8(1 + d.below(6))
			}
		}
		s, e := grove.Print(h)
		if e != api.OK && s != "" {
			t.Fatalf("Print(%v) = %q, %d", h, s, e)
		}
		e, place := grove.Check(h)
		wantE, wantPlace := otherCheck(h)
		if e != wantE || place != wantPlace {
			t.Fatalf("Check(%v) = %d, %d, want %d, %d", h, e, place, wantE, wantPlace)
		}
		place, values, e := otherReplay(h)
		wantReplayed(t, h, place, values, e)
		text := make([]byte, d.below(100))
		for i := range text {
			text[i] = byte(d.below(256))
		}
		l, e, line := otherParse(string(text))
		wantParsed(t, string(text), l, e, line)
	}
}

// withRoom: the events with spare room behind them, and all of that room.
func withRoom(h []api.Event) ([]api.Event, []api.Event) {
	room := join(h, times(8, whole(77)))
	return room[:len(h)], room
}

func handedIn() [][]api.Event {
	return [][]api.Event{
		list(),
		list(begin(1, 0), add(1, 2, 5, -7), commit(1)),
		list(begin(1, 0), begin(2, 1), add(2, 3, 5, 0), write(1, 0, 7), commit(2), read(1, 3, 5), commit(1)),
		list(begin(1, 0), begin(2, 0), write(1, 0, 5), read(2, 0, 0), commit(1), commit(2)),
		list(begin(1, 0), begin(2, 1), abort(1), read(2, 0, 0)),
		list(begin(1, 0), whole(api.Begin), whole(api.Commit), whole(9)),
		times(60, write(1, 1, 1)),
		times(61, write(1, 1, 1)),
		join(row(1), times(58, write(1, 1, 1)), list(commit(1))),
	}
}

func TestNothingHandedInIsWrittenInto(t *testing.T) {
	for _, events := range handedIn() {
		h, room := withRoom(events)
		before := slices.Clone(room)
		grove.Print(h)
		grove.Check(h)
		grove.Replay(h)
		if !slices.Equal(room, before) {
			t.Errorf("%v became %v", before, room)
		}
	}
}

// The answers are the same whatever was called in between, and whatever became of the list behind the call.
func TestAnswersHangOnTheArgumentsAlone(t *testing.T) {
	for _, events := range handedIn() {
		h := slices.Clone(events)
		text, textError := grove.Print(h)
		checkError, place := grove.Check(h)
		played, values, playError := grove.Replay(h)
		for i := range h {
			h[i] = whole(88)
		}
		for _, other := range handedIn() {
			grove.Print(other)
			grove.Check(other)
			grove.Replay(other)
			grove.Parse("B 1 0\nQ")
		}
		againText, againTextError := grove.Print(events)
		againCheckError, againPlace := grove.Check(events)
		if againText != text || againTextError != textError || againCheckError != checkError || againPlace != place {
			t.Errorf("%v: %q, %d, %d, %d, then %q, %d, %d, %d", events, text, textError, checkError, place, againText, againTextError, againCheckError, againPlace)
		}
		wantReplayed(t, events, played, values, playError)
	}
}

func TestParsedListsAreFresh(t *testing.T) {
	for n := 0; n <= 60; n++ {
		text := strings.Repeat("A 1 2 3 -4\n", n)
		want := times(n, add(1, 2, 3, -4))
		first, _, _ := grove.Parse(text)
		second, _, _ := grove.Parse(text)
		all := first[:cap(first)]
		for i := range all {
			all[i] = whole(99)
		}
		wantParsed(t, text, want, api.OK, 0)
		if !slices.Equal(second, want) {
			t.Errorf("%d lines: what came out was changed: %v", n, second)
		}
		grove.Parse(strings.Repeat("X 9\n", 60))
		if !slices.Equal(second, want) || !slices.Equal(first, times(n, whole(99))) {
			t.Errorf("%d lines: what came out was changed by a later call: %v, %v", n, first, second)
		}
	}
}
