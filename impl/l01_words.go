package impl

import (
	"strconv"
	"strings"
)

const (
	MaxText   = 20000
	MaxNumber = 1000000000
	MaxWords  = 600
	MaxParts  = 10
)

const (
	figures        = "0123456789abcdef"
	decimalBase    = 10
	hexBase        = 16
	decimalFigures = 10 // MaxNumber has ten: a longer text is refused unread, so that no sum runs over
	varBytes       = 5  // MaxNumber has five: a longer form is refused unread, so that no shift runs over
)

func VarText(n int) (string, bool) {
	if n < 0 || n > MaxNumber {
		return "", false
	}
	var out []byte
	for n > 127 {
		out = append(out, byte(n%128+128))
		n /= 128
	}
	return string(append(out, byte(n))), true
}

func ReadVar(text string, at int) (int, int, bool) {
	if at < 0 || at > len(text) {
		return 0, 0, false
	}
	size, ok := varSize(text[at:])
	if !ok {
		return 0, 0, false
	}
	n := 0
	for place := at + size - 1; place >= at; place-- {
		n = n*128 + int(text[place]%128)
	}
	if n > MaxNumber {
		return 0, 0, false
	}
	return n, at + size, true
}

// varSize tells how many bytes the number at the beginning of text takes. A
// last byte of 0 behind others adds nothing: VarText would have ended earlier.
func varSize(text string) (int, bool) {
	for place := 0; place < len(text) && place < varBytes; place++ {
		if text[place] < 128 {
			return place + 1, place == 0 || text[place] != 0
		}
	}
	return 0, false
}

func ShortText(s string) (string, bool) {
	if len(s) > MaxText {
		return "", false
	}
	head, ok := VarText(len(s))
	return head + s, ok
}

func ReadShort(text string, at int) (string, int, bool) {
	size, begin, ok := ReadVar(text, at)
	if !ok || size > MaxText || size > len(text)-begin {
		return "", 0, false
	}
	end := begin + size
	return strings.Clone(text[begin:end]), end, true
}

func Hex(text string) (string, bool) {
	if len(text) > MaxText {
		return "", false
	}
	out := make([]byte, 0, 2*len(text))
	for place := range len(text) {
		b := text[place]
		out = append(out, figures[b/hexBase], figures[b%hexBase])
	}
	return string(out), true
}

func Unhex(text string) (string, bool) {
	if len(text)%2 != 0 || len(text) > 2*MaxText {
		return "", false
	}
	worths, ok := worthsOf(text, hexBase)
	if !ok {
		return "", false
	}
	out := make([]byte, 0, len(worths)/2)
	for place := 0; place < len(worths); place += 2 {
		out = append(out, worths[place]*hexBase+worths[place+1])
	}
	return string(out), true
}

// worthsOf tells what each figure of text is worth; false when one is no
// figure of that base.
func worthsOf(text string, base int) ([]byte, bool) {
	worths := make([]byte, 0, len(text))
next:
	for place := range len(text) {
		for worth := range base {
			if text[place] == figures[worth] {
				worths = append(worths, byte(worth))
				continue next
			}
		}
		return nil, false
	}
	return worths, true
}

func Decimal(n int) string {
	return strconv.Itoa(n)
}

func ReadDecimal(text string) (int, bool) {
	if text == "" || len(text) > decimalFigures || len(text) > 1 && text[0] == '0' {
		return 0, false
	}
	worths, ok := worthsOf(text, decimalBase)
	if !ok {
		return 0, false
	}
	n := 0
	for _, worth := range worths {
		n = n*decimalBase + int(worth)
	}
	if n > MaxNumber {
		return 0, false
	}
	return n, true
}

func PartsOf(line string) ([]string, bool) {
	if len(line) > MaxWords || !isPlain(line) {
		return nil, false
	}
	parts := strings.Fields(line)
	if len(parts) > MaxParts {
		return nil, false
	}
	for place, part := range parts {
		// Fields cuts its parts out of the line; an answer is new memory.
		parts[place] = strings.Clone(part)
	}
	return parts, true
}

// isPlain holds when the blank is the only space that the line can have.
func isPlain(line string) bool {
	for place := range len(line) {
		if line[place] < ' ' || line[place] > '~' {
			return false
		}
	}
	return true
}
