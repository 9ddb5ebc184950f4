package grove_test

import (
	"fmt"
	"strings"
	"testing"

	"grove/api"
	"grove/grove"
)

func TestPrintLines(t *testing.T) {
	for _, c := range []struct {
		h    []api.Event
		want string
	}{
		{nil, ""},
		{list(), ""},
		{list(begin(1, 0), add(1, 2, 5, -7), commit(1)), "B 1 0\nA 1 2 5 -7\nC 1\n"},
		{list(begin(12, 7)), "B 12 7\n"},
		{list(read(1, 3, -4)), "R 1 3 -4\n"},
		{list(write(2, 1, 40)), "W 2 1 40\n"},
		{list(add(3, 0, -1, 10)), "A 3 0 -1 10\n"},
		{list(commit(15)), "C 15\n"},
		{list(abort(9)), "X 9\n"},
		{list(begin(0, 255), commit(255), abort(0)), "B 0 255\nC 255\nX 0\n"},
		{list(read(0, 0, 0), write(0, 0, 0), add(0, 0, 0, 0)), "R 0 0 0\nW 0 0 0\nA 0 0 0 0\n"},
		{list(read(255, 255, least), write(255, 255, most)), "R 255 255 -2147483648\nW 255 255 2147483647\n"},
		{list(add(100, 10, most, least), add(10, 100, least, most)), "A 100 10 2147483647 -2147483648\nA 10 100 -2147483648 2147483647\n"},
		{list(abort(2), abort(1), abort(2)), "X 2\nX 1\nX 2\n"},
	} {
		s, e := grove.Print(c.h)
		if s != c.want || e != api.OK {
			t.Errorf("Print(%v) = %q, %d, want %q", c.h, s, e, c.want)
		}
	}
}

func TestPrintLeavesOutWhatAKindDoesNotName(t *testing.T) {
	for kind, want := range []string{1: "B 1 2\n", 2: "R 1 2 4\n", 3: "W 1 2 3\n", 4: "A 1 2 3 4\n", 5: "C 1\n", 6: "X 1\n"} {
		if kind == 0 {
			continue
		}
		s, e := grove.Print(list(whole(uint8(kind))))
		if s != want || e != api.OK {
			t.Errorf("Print of kind %d = %q, %d, want %q", kind, s, e, want)
		}
	}
}

func TestPrintKinds(t *testing.T) {
	for k := 0; k <= 255; k++ {
		want := api.ErrKind
		if k >= 1 && k <= 6 {
			want = api.OK
		}
		for _, h := range [][]api.Event{
			list(whole(uint8(k))),
			list(whole(uint8(k)), begin(1, 0)),
			join(times(59, begin(1, 0)), list(whole(uint8(k)))),
		} {
			s, e := grove.Print(h)
			if e != want || (s == "") != (want != api.OK) {
				t.Errorf("Print of %d events with kind %d = %q, %d, want %d", len(h), k, s, e, want)
			}
		}
	}
}

func TestPrintLengths(t *testing.T) {
	s, e := grove.Print(times(60, add(255, 255, least, least)))
	if want := strings.Repeat("A 255 255 -2147483648 -2147483648\n", 60); s != want || e != api.OK {
		t.Errorf("Print of 60 long events: %d bytes, %d", len(s), e)
	}
	for _, n := range []int{61, 62, 1000, 100000} {
		// Too many events are told ahead of a kind that is none.
		for _, event := range []api.Event{commit(1), {}, {Kind: 7}} {
			s, e = grove.Print(times(n, event))
			if s != "" || e != api.ErrLong {
				t.Errorf("Print of %d events = %q, %d, want ErrLong", n, s, e)
			}
		}
	}
}

// wantLine: P3's line, told in another way than the program does.
func wantLine(e api.Event) string {
	switch e.Kind {
	case api.Begin:
		return fmt.Sprintf("B %d %d\n", e.Tx, e.Arg)
	case api.Read:
		return fmt.Sprintf("R %d %d %d\n", e.Tx, e.Arg, e.Seen)
	case api.Write:
		return fmt.Sprintf("W %d %d %d\n", e.Tx, e.Arg, e.Value)
	case api.Add:
		return fmt.Sprintf("A %d %d %d %d\n", e.Tx, e.Arg, e.Value, e.Seen)
	case api.Commit:
		return fmt.Sprintf("C %d\n", e.Tx)
	}
	return fmt.Sprintf("X %d\n", e.Tx)
}

// named: the event without what its kind does not name.
func named(e api.Event) api.Event {
	n := api.Event{Kind: e.Kind, Tx: e.Tx}
	switch e.Kind {
	case api.Begin:
		n.Arg = e.Arg
	case api.Read:
		n.Arg, n.Seen = e.Arg, e.Seen
	case api.Write:
		n.Arg, n.Value = e.Arg, e.Value
	case api.Add:
		n = e
	}
	return n
}

func TestPrintAndParseOfAnyEvents(t *testing.T) {
	d := dice{1}
	for range 3000 {
		var h, back []api.Event
		want := ""
		for range d.below(61) {
			e := api.Event{Kind: uint8(1 + d.below(6)), Tx: uint8(d.below(256)), Arg: uint8(d.below(256)), Value: d.int32(), Seen: d.int32()}
			h = append(h, e)
			back = append(back, named(e))
			want += wantLine(e)
		}
		s, e := grove.Print(h)
		if s != want || e != api.OK {
			t.Fatalf("Print(%v) = %q, %d, want %q", h, s, e, want)
		}
		wantParsed(t, s, back, api.OK, 0)
	}
}
