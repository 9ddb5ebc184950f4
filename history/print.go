package history

import (
	"strconv"

	"grove/api"
)

// Print writes events as text, a line each (P3).
func Print(h []api.Event) (string, api.Errno) {
	if len(h) > api.MaxEvents {
		return "", api.ErrLong
	}
	text := ""
	for _, e := range h {
		first := letter(e.Kind)
		if first == "" {
			return "", api.ErrKind
		}
		text += first + numbers(e) + "\n"
	}
	return text, api.OK
}

// numbers: the numbers that the event's kind names, each behind its byte 32.
func numbers(e api.Event) string {
	s := number(int64(e.Tx))
	if namesArg(e.Kind) {
		s += number(int64(e.Arg))
	}
	if namesValue(e.Kind) {
		s += number(int64(e.Value))
	}
	if namesSeen(e.Kind) {
		s += number(int64(e.Seen))
	}
	return s
}

func number(n int64) string {
	return " " + strconv.FormatInt(n, 10)
}
