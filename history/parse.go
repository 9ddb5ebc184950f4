package history

import "grove/api"

const (
	leastInt32 = -1 << 31
	mostInt32  = 1<<31 - 1
	mostUint8  = 1<<8 - 1
	// No int32 has more digits; so many fit into an int64, whichever they are.
	mostDigits = 10
)

// Parse reads a text as events (P4).
func Parse(s string) ([]api.Event, api.Errno, int) {
	if len(s) > api.MaxText {
		return nil, api.ErrLong, 0
	}
	var h []api.Event
	start := 0
	for start < len(s) {
		end := lineEnd(s, start)
		if end >= len(s) || len(h) >= api.MaxEvents {
			return nil, api.ErrSyntax, len(h)
		}
		e, ok := parseLine(s[start:end])
		if !ok {
			return nil, api.ErrSyntax, len(h)
		}
		h = append(h, e)
		start = end + 1
	}
	return h, api.OK, 0
}

// lineEnd: where the first byte 10 from start on stands, or len(s) if there is none.
func lineEnd(s string, start int) int {
	end := start
	for end < len(s) && s[end] != '\n' {
		end++
	}
	return end
}

// parseLine reads a line without its byte 10; false, if Print would write it of no event.
func parseLine(line string) (api.Event, bool) {
	if line == "" {
		return api.Event{}, false
	}
	e := api.Event{Kind: kindOf(line[0])}
	if e.Kind == 0 {
		return api.Event{}, false
	}
	r := reader{line: line, at: 1}
	e.Tx = uint8(r.number(0, mostUint8))
	if namesArg(e.Kind) {
		e.Arg = uint8(r.number(0, mostUint8))
	}
	if namesValue(e.Kind) {
		e.Value = int32(r.number(leastInt32, mostInt32))
	}
	if namesSeen(e.Kind) {
		e.Seen = int32(r.number(leastInt32, mostInt32))
	}
	if r.bad || r.at != len(line) {
		return api.Event{}, false
	}
	return e, true
}

// reader goes along a line; bad stays set, so that it need be asked at the end only.
type reader struct {
	line string
	at   int
	bad  bool
}

// number reads a byte 32 and a number from low to high in P3's writing; anything else is bad, and answers 0.
func (r *reader) number(low, high int64) int64 {
	space := r.take(' ')
	minus := r.take('-')
	n, ok := r.digits()
	if minus {
		n = -n
	}
	minusNought := minus && n == 0
	if !space || !ok || minusNought || n < low || n > high {
		r.bad = true
		return 0
	}
	return n
}

// digits reads a number without a sign; false, if there is none, or one with noughts ahead.
func (r *reader) digits() (int64, bool) {
	start := r.at
	n := int64(0)
	// A digit too many stays unread: neither a further number nor the line's end begins with one.
	for r.at < len(r.line) && r.at-start < mostDigits && isDigit(r.line[r.at]) {
		n = n*10 + int64(r.line[r.at]-'0')
		r.at++
	}
	count := r.at - start
	if count == 0 {
		return 0, false
	}
	return n, count == 1 || r.line[start] != '0'
}

// take goes past the byte b, if it is the next one.
func (r *reader) take(b byte) bool {
	if r.at >= len(r.line) || r.line[r.at] != b {
		return false
	}
	r.at++
	return true
}

func isDigit(b byte) bool { return b >= '0' && b <= '9' }
