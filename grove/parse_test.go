package grove_test

import (
	"regexp"
	"slices"
	"strconv"
	"strings"
	"testing"

	"grove/api"
	"grove/grove"
)

func wantParsed(t *testing.T, s string, want []api.Event, e api.Errno, place int) {
	t.Helper()
	gotList, gotError, gotPlace := grove.Parse(s)
	if !slices.Equal(gotList, want) || gotError != e || gotPlace != place {
		t.Errorf("Parse(%.80q) = %v, %d, %d, want %v, %d, %d", s, gotList, gotError, gotPlace, want, e, place)
	}
	if gotError != api.OK && gotList != nil {
		t.Errorf("Parse(%.80q): a list beside the error %d", s, gotError)
	}
}

func TestParseEvents(t *testing.T) {
	for _, c := range []struct {
		s    string
		want []api.Event
	}{
		{"", nil},
		{"B 1 0\nA 1 2 5 -7\nC 1\n", list(begin(1, 0), add(1, 2, 5, -7), commit(1))},
		{"B 255 0\n", list(begin(255, 0))},
		{"B 0 255\n", list(begin(0, 255))},
		{"R 1 3 -4\n", list(read(1, 3, -4))},
		{"W 2 1 40\n", list(write(2, 1, 40))},
		{"A 3 0 -1 10\n", list(add(3, 0, -1, 10))},
		{"C 0\nX 0\nC 255\nX 255\n", list(commit(0), abort(0), commit(255), abort(255))},
		{"R 0 255 -2147483648\nR 255 0 2147483647\n", list(read(0, 255, least), read(255, 0, most))},
		{"W 0 0 -2147483648\nW 0 0 2147483647\n", list(write(0, 0, least), write(0, 0, most))},
		{"A 0 0 2147483647 -2147483648\n", list(add(0, 0, most, least))},
		{"A 0 0 -2147483648 2147483647\n", list(add(0, 0, least, most))},
		{"W 9 9 0\nW 9 9 -1\nW 9 9 -10\nW 9 9 100\n", list(write(9, 9, 0), write(9, 9, -1), write(9, 9, -10), write(9, 9, 100))},
		{strings.Repeat("C 7\n", 59), times(59, commit(7))},
		{strings.Repeat("C 7\n", 60), times(60, commit(7))},
	} {
		wantParsed(t, c.s, c.want, api.OK, 0)
	}
}

func TestParseWrongLines(t *testing.T) {
	for _, line := range []string{
		"\n", " \n", "\r\n", "\x00\n", "\xff\n", "é 1\n",
		"B 1 0", "C 1", "C", "C ", "B", " ", "x", "\x00",
		"C\n", "C \n", "C1\n", "C  1\n", "C\t1\n", " C 1\n", "C 1 \n", "C 1\r\n", "C 1\x00\n", "CC 1\n", "C C 1\n", "1 C\n",
		"b 1 0\n", "r 1 0 0\n", "w 1 0 0\n", "a 1 0 0 0\n", "c 1\n", "x 1\n", "D 1\n", "Q 1 0\n", "@ 1\n", "0 1\n",
		"B 1\n", "B 1 \n", "B 1 0 0\n", "R 1\n", "R 1 0\n", "R 1 0 \n", "R 1 0 1 2\n", "W 1 0\n", "W 1 0 1 2\n", "A 1 0 1\n", "A 1 0 1 \n", "A 1 0 1 2 3\n", "C 1 2\n", "X 1 2\n", "X\n",
		"C 01\n", "C 00\n", "C 000\n", "C +1\n", "C -1\n", "C -0\n", "C -\n", "C --1\n", "C 1-\n", "C 1.0\n", "C 1e1\n", "C 0x1\n", "C 1_0\n", "C /\n", "C :\n", "C ١\n",
		"C 256\n", "C 257\n", "C 999\n", "C 1000\n", "C 2550\n", "C 4294967296\n", "C 4294967297\n", "C 18446744073709551616\n", "C 18446744073709551617\n",
		"B 1 256\n", "B 1 -1\n", "B 1 -0\n", "B 1 00\n", "B 256 0\n", "R 1 256 0\n", "R 256 1 0\n", "W 1 -1 0\n", "A 1 01 0 0\n",
		"R 1 0 -0\n", "R 1 0 00\n", "R 1 0 01\n", "R 1 0 -01\n", "R 1 0 +1\n", "R 1 0 -\n", "R 1 0 --1\n", "R 1 0 1-\n", "R 1 0 - 1\n", "R 1 0  1\n", "R 1 0 0000000001\n", "R 1 0 00000000001\n",
		"R 1 0 2147483648\n", "R 1 0 -2147483649\n", "R 1 0 4294967295\n", "R 1 0 4294967296\n", "R 1 0 9999999999\n", "R 1 0 -9999999999\n", "R 1 0 10000000000\n", "R 1 0 21474836470\n", "R 1 0 18446744073709551616\n", "R 1 0 -18446744073709551616\n",
		"W 1 0 2147483648\n", "W 1 0 -2147483649\n", "A 1 0 2147483648 0\n", "A 1 0 -2147483649 0\n", "A 1 0 0 2147483648\n", "A 1 0 0 -2147483649\n", "A 1 0 -0 0\n", "A 1 0 0 -0\n", "A 1 0 0  0\n",
		"C " + strings.Repeat("1", 2000) + "\n", "R 1 0 " + strings.Repeat("0", 2000) + "\n", "C" + strings.Repeat(" ", 2000) + "1\n",
	} {
		wantParsed(t, line, nil, api.ErrSyntax, 0)
		wantParsed(t, "C 1\n"+line, nil, api.ErrSyntax, 1)
		if len(line) < 1000 {
			wantParsed(t, strings.Repeat("A 1 2 3 -4\n", 59)+line, nil, api.ErrSyntax, 59)
		}
	}
}

func TestParsePlaces(t *testing.T) {
	for _, c := range []struct {
		s     string
		place int
	}{
		{"C 1\n\n", 1},
		{"C 1\nC 2", 1},
		{"C 1\nC 2\nQ 3\n", 2},
		{"C 1\nQ 2\nQ 3\n", 1},
		{"C 1\nQ 2\nC 3", 1},
		{"C 1\n\nC 3\n", 1},
		{"\nC 3\n", 0},
	} {
		wantParsed(t, c.s, nil, api.ErrSyntax, c.place)
	}
}

func TestParseOfThe61stLine(t *testing.T) {
	sixty := strings.Repeat("C 0\n", 60)
	for _, rest := range []string{"C 0\n", "C 0", "x", "\n", "x\n", "C 0\nC 0\n", "C 0\nx"} {
		wantParsed(t, sixty+rest, nil, api.ErrSyntax, 60)
	}
	wantParsed(t, strings.Repeat("C 0\n", 30)+"x\n"+sixty, nil, api.ErrSyntax, 30)
}

func TestParseLengths(t *testing.T) {
	four := strings.Repeat("C 0\n", 525)
	if len(four) != 2100 {
		t.Fatalf("%d bytes", len(four))
	}
	wantParsed(t, four, nil, api.ErrSyntax, 60)
	wantParsed(t, four+"\n", nil, api.ErrLong, 0)
	wantParsed(t, four+"x", nil, api.ErrLong, 0)
	wantParsed(t, strings.Repeat("x", 2100), nil, api.ErrSyntax, 0)
	wantParsed(t, strings.Repeat("\n", 2100), nil, api.ErrSyntax, 0)
	for _, n := range []int{2101, 2102, 1 << 16, 1<<16 + 10, 1 << 22} {
		wantParsed(t, strings.Repeat("x", n), nil, api.ErrLong, 0)
		wantParsed(t, strings.Repeat("\n", n), nil, api.ErrLong, 0)
	}
	// The longest text that is one: 60 lines of 34 bytes.
	longest := strings.Repeat("A 255 255 -2147483648 -2147483648\n", 60)
	wantParsed(t, longest, times(60, add(255, 255, least, least)), api.OK, 0)
	// As long as it may be, and only then wrong.
	wantParsed(t, longest+strings.Repeat("x", 2100-len(longest)), nil, api.ErrSyntax, 60)
	wantParsed(t, longest+strings.Repeat("x", 2101-len(longest)), nil, api.ErrLong, 0)
}

const (
	smallForm = ` (0|[1-9][0-9]{0,2})`
	largeForm = ` (0|-?[1-9][0-9]{0,9})`
)

var lineForms = []*regexp.Regexp{
	regexp.MustCompile(`\AB` + smallForm + smallForm + `\z`),
	regexp.MustCompile(`\AR` + smallForm + smallForm + largeForm + `\z`),
	regexp.MustCompile(`\AW` + smallForm + smallForm + largeForm + `\z`),
	regexp.MustCompile(`\AA` + smallForm + smallForm + largeForm + largeForm + `\z`),
	regexp.MustCompile(`\AC` + smallForm + `\z`),
	regexp.MustCompile(`\AX` + smallForm + `\z`),
}

// otherLine reads a line in another way than the program does.
func otherLine(line string) (api.Event, bool) {
	for i, form := range lineForms {
		m := form.FindStringSubmatch(line)
		if m == nil {
			continue
		}
		var n [4]int32
		for j, word := range m[1:] {
			v, err := strconv.ParseInt(word, 10, 32)
			if err != nil || j < 2 && v > 255 {
				return api.Event{}, false
			}
			n[j] = int32(v)
		}
		e := api.Event{Kind: uint8(i + 1), Tx: uint8(n[0]), Arg: uint8(n[1]), Value: n[2], Seen: n[3]}
		if e.Kind == api.Read {
			e.Value, e.Seen = 0, e.Value
		}
		return e, true
	}
	return api.Event{}, false
}

func otherParse(s string) ([]api.Event, api.Errno, int) {
	if len(s) > 2100 {
		return nil, api.ErrLong, 0
	}
	var l []api.Event
	for i, line := range strings.SplitAfter(s, "\n") {
		if line == "" {
			break
		}
		body, ended := strings.CutSuffix(line, "\n")
		e, ok := otherLine(body)
		if !ended || !ok || i == 60 {
			return nil, api.ErrSyntax, i
		}
		l = append(l, e)
	}
	return l, api.OK, 0
}

// spoil puts in, takes out or changes a few bytes.
func (d *dice) spoil(s string) string {
	const bytes = "BRWACX 0123456789-+\n\r\tbx\x00\xff"
	for range d.below(4) {
		at := d.below(len(s) + 1)
		b := d.below(len(bytes))
		switch d.below(3) {
		case 0:
			s = s[:at] + bytes[b:b+1] + s[at:]
		case 1:
			s = s[:at] + s[min(at+1, len(s)):]
		default:
			s = s[:at] + bytes[b:b+1] + s[min(at+1, len(s)):]
		}
	}
	return s
}

func TestParseOfSpoiltTexts(t *testing.T) {
	d := dice{2}
	seen := map[api.Errno]int{}
	for range 60000 {
		text := ""
		for range d.below(4) {
			e := api.Event{Kind: uint8(1 + d.below(6)), Tx: uint8(d.below(256)), Arg: uint8(d.below(256)), Value: d.int32(), Seen: d.int32()}
			text += wantLine(e)
		}
		text = d.spoil(text)
		l, e, place := otherParse(text)
		wantParsed(t, text, l, e, place)
		seen[e]++
	}
	if seen[api.OK] < 1000 || seen[api.ErrSyntax] < 1000 {
		t.Errorf("too few of one sort: %v", seen)
	}
}

// Every text of up to five of some bytes, and every byte in every place of a line, is read as the other reader does.
func TestParseOfAllSmallTexts(t *testing.T) {
	const bytes = "BCX 019-\n+"
	texts := []string{""}
	for first := 0; len(texts[first]) < 5; first++ {
		for i := range bytes {
			texts = append(texts, texts[first]+bytes[i:i+1])
		}
	}
	for _, line := range []string{"B 1 20\n", "R 10 3 -45\n", "W 25 0 0\n", "A 0 1 -2 147483648\n", "C 25\n", "X 9\n"} {
		for at := range line {
			for b := 0; b <= 255; b++ {
				texts = append(texts, line[:at]+string([]byte{byte(b)})+line[at+1:], line[:at]+string([]byte{byte(b)})+line[at:])
			}
		}
	}
	for _, text := range texts {
		l, e, place := otherParse(text)
		wantParsed(t, text, l, e, place)
	}
}
