// Package history: lists of events: as text, read from text, whether they are a history, and played again.
package history

import "grove/api"

// letters: the letter of kind k stands at k - 1.
const letters = "BRWACX"

// letter: the letter of a kind, or nothing if it is none.
func letter(kind uint8) string {
	at := int(kind) - 1
	if at < 0 || at >= len(letters) {
		return ""
	}
	return letters[at : at+1]
}

// kindOf: the kind of a letter, or 0 if it has none.
func kindOf(b byte) uint8 {
	for i := 0; i < len(letters); i++ {
		if letters[i] == b {
			return uint8(i + 1)
		}
	}
	return 0
}

// onObject tells whether an event of that kind is about an object.
func onObject(kind uint8) bool {
	return kind == api.Read || kind == api.Write || kind == api.Add
}

// All kinds name Tx. What else they name is asked here alone, so that the calls agree on it.

func namesArg(kind uint8) bool {
	return kind == api.Begin || onObject(kind)
}

func namesValue(kind uint8) bool {
	return kind == api.Write || kind == api.Add
}

func namesSeen(kind uint8) bool {
	return kind == api.Read || kind == api.Add
}
