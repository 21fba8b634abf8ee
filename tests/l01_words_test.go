package tests

import (
	"encoding/hex"
	"math"
	"math/rand"
	"slices"
	"strconv"
	"strings"
	"testing"

	"loop.example/g00193/impl"
)

// readVarLike answers as the document words it: the number whose VarText
// begins the rest of text. VarText has its own tests, so it may be the measure.
func readVarLike(text string, at int) (int, int, bool) {
	if at < 0 || at > len(text) {
		return 0, 0, false
	}
	n := 0
	for size := 1; size <= 5 && at+size <= len(text); size++ {
		n += int(text[at+size-1]&127) << (7 * (size - 1))
		if s, ok := impl.VarText(n); ok && s == text[at:at+size] {
			return n, at + size, true
		}
	}
	return 0, 0, false
}

func checkReadVar(t *testing.T, text string, at int) {
	t.Helper()
	n, end, ok := impl.ReadVar(text, at)
	wantN, wantEnd, want := readVarLike(text, at)
	if n != wantN || end != wantEnd || ok != want {
		t.Errorf("ReadVar(%q, %d) = %d, %d, %v; want %d, %d, %v", text, at, n, end, ok, wantN, wantEnd, want)
	}
}

// numbersOfNote are the edges, and numbers on both sides of each new byte.
func numbersOfNote() []int {
	list := []int{0, 1, 9, 10, 126, 300, impl.MaxText - 1, impl.MaxText, impl.MaxText + 1, 99999, impl.MaxNumber - 1, impl.MaxNumber}
	for n := 128; n < impl.MaxNumber; n *= 128 {
		list = append(list, n-1, n, n+1, 2*n-1, 2*n)
	}
	draw := rand.New(rand.NewSource(1))
	for range 2000 {
		list = append(list, draw.Intn(impl.MaxNumber+1), draw.Intn(20000))
	}
	return list
}

func numbersOutside() []int {
	return []int{-1, -128, math.MinInt, impl.MaxNumber + 1, 1 << 30, 1 << 32, 1<<32 + 5, 1 << 35, math.MaxInt}
}

func TestConstantsOfWords(t *testing.T) {
	if impl.MaxText != 20000 || impl.MaxNumber != 1000000000 || impl.MaxWords != 600 || impl.MaxParts != 10 {
		t.Error("a limit is not the document's")
	}
}

func TestVarTextWrites(t *testing.T) {
	for _, c := range []struct {
		n    int
		want string
	}{
		{0, "\x00"},
		{1, "\x01"},
		{127, "\x7f"},
		{128, "\x80\x01"},
		{129, "\x81\x01"},
		{255, "\xff\x01"},
		{256, "\x80\x02"},
		{300, "\xac\x02"},
		{16383, "\xff\x7f"},
		{16384, "\x80\x80\x01"},
		{2097151, "\xff\xff\x7f"},
		{2097152, "\x80\x80\x80\x01"},
		{268435455, "\xff\xff\xff\x7f"},
		{268435456, "\x80\x80\x80\x80\x01"},
		{impl.MaxNumber - 1, "\xff\x93\xeb\xdc\x03"},
		{impl.MaxNumber, "\x80\x94\xeb\xdc\x03"},
	} {
		if s, ok := impl.VarText(c.n); !ok || s != c.want {
			t.Errorf("VarText(%d) = %q, %v; want %q", c.n, s, ok, c.want)
		}
	}
}

func TestVarTextRefuses(t *testing.T) {
	for _, n := range numbersOutside() {
		if s, ok := impl.VarText(n); ok || s != "" {
			t.Errorf("VarText(%d) = %q, %v; want nothing and false", n, s, ok)
		}
	}
}

func TestVarTextIsReadBack(t *testing.T) {
	for _, n := range numbersOfNote() {
		s, ok := impl.VarText(n)
		if !ok {
			t.Fatalf("VarText(%d) is refused", n)
		}
		for _, ahead := range []string{"", "\x00", "\x80", "ab\xff"} {
			for _, behind := range []string{"", "\x00", "\x01", "\xff\xff"} {
				got, end, ok := impl.ReadVar(ahead+s+behind, len(ahead))
				if !ok || got != n || end != len(ahead)+len(s) {
					t.Errorf("ReadVar(%q, %d) = %d, %d, %v; want %d", ahead+s+behind, len(ahead), got, end, ok, n)
				}
			}
		}
		for size := range len(s) {
			if got, end, ok := impl.ReadVar(s[:size], 0); ok || got != 0 || end != 0 {
				t.Errorf("ReadVar(%q, 0) = %d, %d, %v; want false: it ends too soon", s[:size], got, end, ok)
			}
		}
	}
}

func TestReadVarRefusesLongerForms(t *testing.T) {
	for _, text := range []string{
		"\x80\x00",                 // 0
		"\x81\x00",                 // 1
		"\xff\x00",                 // 127
		"\x80\x80\x00",             // 0
		"\xac\x82\x00",             // 300
		"\xff\xff\xff\x00",         // 2097151
		"\xff\xff\xff\xff\x00",     // 268435455
		"\x80\x94\xeb\xdc\x83\x00", // MaxNumber
		"\x80\x80\x80\x80\x80\x00",
		strings.Repeat("\x80", 9) + "\x00",
		strings.Repeat("\x80", 10) + "\x01", // 1 shifted out of 64 bits
		strings.Repeat("\x80", 30) + "\x05",
		strings.Repeat("\x80", 5000) + "\x00",
	} {
		if n, end, ok := impl.ReadVar(text, 0); ok || n != 0 || end != 0 {
			t.Errorf("ReadVar(%q, 0) = %d, %d, %v; want 0, 0, false", text, n, end, ok)
		}
	}
}

func TestReadVarRefusesNumbersOutside(t *testing.T) {
	for _, text := range []string{
		"\x81\x94\xeb\xdc\x03",                      // MaxNumber + 1
		"\xff\xff\xff\xff\x03",                      // 2^30 - 1
		"\xff\xff\xff\xff\x7f",                      // 2^35 - 1
		"\x80\x94\xeb\xdc\x83\x01",                  // six bytes, no longer form
		strings.Repeat("\xff", 9) + "\x01",          // 2^64 - 1: -1 if it wraps
		strings.Repeat("\xff", 9) + "\x7f",          // wraps
		"\x85" + strings.Repeat("\x80", 8) + "\x02", // 5 if it wraps
	} {
		if n, end, ok := impl.ReadVar(text, 0); ok || n != 0 || end != 0 {
			t.Errorf("ReadVar(%q, 0) = %d, %d, %v; want 0, 0, false", text, n, end, ok)
		}
	}
}

func TestReadVarPlaces(t *testing.T) {
	for _, text := range []string{"", "\x05", "\x00\xac\x02", "\x80", "\xff\xff"} {
		for _, at := range []int{math.MinInt, -2, -1, len(text), len(text) + 1, len(text) + 2, math.MaxInt} {
			if n, end, ok := impl.ReadVar(text, at); ok || n != 0 || end != 0 {
				t.Errorf("ReadVar(%q, %d) = %d, %d, %v; want 0, 0, false", text, at, n, end, ok)
			}
		}
		for at := -1; at <= len(text)+1; at++ {
			checkReadVar(t, text, at)
		}
	}
	if n, end, ok := impl.ReadVar("\x05\x06", 0); !ok || n != 5 || end != 1 {
		t.Errorf("ReadVar at 0 = %d, %d, %v", n, end, ok)
	}
	if n, end, ok := impl.ReadVar("\x05\x06", 1); !ok || n != 6 || end != 2 {
		t.Errorf("ReadVar at the last byte = %d, %d, %v", n, end, ok)
	}
}

func TestReadVarOfAllShortTexts(t *testing.T) {
	bytes := []byte{0, 1, 3, 4, 127, 128, 129, 148, 220, 235, 255}
	texts := []string{""}
	for range 4 {
		var longer []string
		for _, s := range texts {
			for _, b := range bytes {
				longer = append(longer, s+string([]byte{b}))
			}
		}
		for _, s := range longer {
			checkReadVar(t, s, 0)
			checkReadVar(t, s+"\x03", 0)
			checkReadVar(t, s+"\x80\x01", 1)
		}
		texts = longer
	}
}

func textsOfNote() []string {
	every := make([]byte, 256)
	for b := range every {
		every[b] = byte(b)
	}
	list := []string{"", "\x00", "a", " ", "\x80\x00", "\xff", "äö", string(every)}
	draw := rand.New(rand.NewSource(2))
	for _, size := range []int{126, 127, 128, 129, 16383, 16384, impl.MaxText - 1, impl.MaxText} {
		drawn := make([]byte, size)
		draw.Read(drawn)
		list = append(list, string(drawn))
	}
	for range 300 {
		drawn := make([]byte, draw.Intn(300))
		draw.Read(drawn)
		list = append(list, string(drawn))
	}
	return list
}

func TestShortTextWrites(t *testing.T) {
	for _, c := range []struct{ s, want string }{
		{"", "\x00"},
		{"a", "\x01a"},
		{"\x00\xff", "\x02\x00\xff"},
		{strings.Repeat("b", 127), "\x7f" + strings.Repeat("b", 127)},
		{strings.Repeat("c", 128), "\x80\x01" + strings.Repeat("c", 128)},
		{strings.Repeat("d", impl.MaxText), "\xa0\x9c\x01" + strings.Repeat("d", impl.MaxText)},
	} {
		if s, ok := impl.ShortText(c.s); !ok || s != c.want {
			t.Errorf("ShortText of %d bytes is wrong (%v)", len(c.s), ok)
		}
	}
	for _, size := range []int{impl.MaxText + 1, 2 * impl.MaxText} {
		if s, ok := impl.ShortText(strings.Repeat("e", size)); ok || s != "" {
			t.Errorf("ShortText of %d bytes is not refused", size)
		}
	}
}

func TestShortTextIsReadBack(t *testing.T) {
	for _, s := range textsOfNote() {
		short, ok := impl.ShortText(s)
		if !ok {
			t.Fatalf("ShortText of %d bytes is refused", len(s))
		}
		for _, ahead := range []string{"", "\x00", "\xff\xff"} {
			for _, behind := range []string{"", "\x00", "more"} {
				got, end, ok := impl.ReadShort(ahead+short+behind, len(ahead))
				if !ok || got != s || end != len(ahead)+len(short) {
					t.Errorf("a text of %d bytes, with %q ahead and %q behind, is not read back", len(s), ahead, behind)
				}
			}
		}
		for _, size := range []int{0, len(short) / 2, len(short) - 1} {
			if got, end, ok := impl.ReadShort(short[:size], 0); ok || got != "" || end != 0 {
				t.Errorf("ReadShort takes a text of %d bytes that ends too soon, at %d", len(s), size)
			}
		}
	}
}

func TestReadShortRefuses(t *testing.T) {
	for _, c := range []struct {
		what string
		text string
		at   int
	}{
		{"nothing", "", 0},
		{"a place below 0", "\x00", -1},
		{"the least place", "\x00", math.MinInt},
		{"a place at the length", "\x01a", 2},
		{"a place past it", "\x01a", 3},
		{"the greatest place", "\x01a", math.MaxInt},
		{"a text one byte short", "\x03ab", 0},
		{"a length alone", "\x01", 0},
		{"a length that ends too soon", "\x80", 0},
		{"a longer form of 0", "\x80\x00", 0},
		{"a longer form of 1", "\x81\x00a", 0},
		{"one more than MaxText", "\xa1\x9c\x01" + strings.Repeat("x", impl.MaxText+1), 0},
		{"MaxText, one byte short", "\xa0\x9c\x01" + strings.Repeat("x", impl.MaxText-1), 0},
		{"a length of MaxNumber", "\x80\x94\xeb\xdc\x03abc", 0},
		{"a length above MaxNumber", "\x81\x94\xeb\xdc\x03abc", 0},
		{"a length that would wrap below 0", strings.Repeat("\xff", 9) + "\x01abc", 0},
	} {
		if s, end, ok := impl.ReadShort(c.text, c.at); ok || s != "" || end != 0 {
			t.Errorf("%s: ReadShort answers %d bytes, %d, %v; want nothing, 0, false", c.what, len(s), end, ok)
		}
	}
}

func TestReadShortAtTheLastPlaces(t *testing.T) {
	if s, end, ok := impl.ReadShort("ab\x00", 2); !ok || s != "" || end != 3 {
		t.Errorf("ReadShort of an empty text at the end = %q, %d, %v", s, end, ok)
	}
	if s, end, ok := impl.ReadShort("ab\x02cd", 2); !ok || s != "cd" || end != 5 {
		t.Errorf("ReadShort of a text that ends with its text = %q, %d, %v", s, end, ok)
	}
	if s, end, ok := impl.ReadShort(strings.Repeat("z", 3*impl.MaxText)+"\x01q", 3*impl.MaxText); !ok || s != "q" || end != 3*impl.MaxText+2 {
		t.Errorf("ReadShort far behind = %q, %d, %v", s, end, ok)
	}
}

func TestHexWritesAndIsReadBack(t *testing.T) {
	for _, s := range textsOfNote() {
		got, ok := impl.Hex(s)
		if !ok || got != hex.EncodeToString([]byte(s)) {
			t.Errorf("Hex of %d bytes is wrong (%v)", len(s), ok)
		}
		if back, ok := impl.Unhex(got); !ok || back != s {
			t.Errorf("Hex of %d bytes is not read back (%v)", len(s), ok)
		}
	}
	if s, ok := impl.Hex("\x00\x0f\xf0\xff\x9a"); !ok || s != "000ff0ff9a" {
		t.Errorf("Hex = %q, %v", s, ok)
	}
	if s, ok := impl.Hex(""); !ok || s != "" {
		t.Errorf("Hex of nothing = %q, %v; want nothing and true", s, ok)
	}
	if s, ok := impl.Hex(strings.Repeat("a", impl.MaxText+1)); ok || s != "" {
		t.Error("Hex of one more than MaxText bytes is not refused")
	}
}

func TestUnhexRefuses(t *testing.T) {
	for _, text := range []string{
		"0", "a", "123", "0A", "A0", "FF", "fF", "g0", "0g", "0x", " 0", "0 ", "/0", "0/", ":0", "0:", "`0", "0`",
		"00g0", "000g", "\x000", "0\x00", "\xff\xff", "é", "-1", "+1", "00\n", "00\n0",
		strings.Repeat("0", 2*impl.MaxText-1),
		strings.Repeat("0", 2*impl.MaxText+1),
		strings.Repeat("0", 2*impl.MaxText+2),
		strings.Repeat("0", 2*impl.MaxText-1) + "z",
	} {
		if s, ok := impl.Unhex(text); ok || s != "" {
			t.Errorf("Unhex of %.20q (%d bytes) answers %d bytes, %v; want nothing and false", text, len(text), len(s), ok)
		}
	}
	if s, ok := impl.Unhex(""); !ok || s != "" {
		t.Errorf("Unhex of nothing = %q, %v; want nothing and true", s, ok)
	}
	if s, ok := impl.Unhex(strings.Repeat("7e", impl.MaxText)); !ok || s != strings.Repeat("~", impl.MaxText) {
		t.Error("Unhex of MaxText bytes is refused or wrong")
	}
}

func TestUnhexOfAllPairs(t *testing.T) {
	const figures = "0123456789abcdef"
	for a := range 256 {
		for b := range 256 {
			high, low := strings.IndexByte(figures, byte(a)), strings.IndexByte(figures, byte(b))
			want := ""
			if high >= 0 && low >= 0 {
				want = string([]byte{byte(16*high + low)})
			}
			text := string([]byte{byte(a), byte(b)})
			if s, ok := impl.Unhex(text); s != want || ok != (want != "") {
				t.Errorf("Unhex(%q) = %q, %v; want %q", text, s, ok, want)
			}
		}
	}
}

func TestDecimalWrites(t *testing.T) {
	for _, c := range []struct {
		n    int
		want string
	}{
		{0, "0"},
		{7, "7"},
		{10, "10"},
		{-1, "-1"},
		{-5, "-5"},
		{-10, "-10"},
		{100200, "100200"},
		{impl.MaxNumber, "1000000000"},
		{impl.MaxNumber + 1, "1000000001"},
		{-impl.MaxNumber, "-1000000000"},
		{math.MaxInt, "9223372036854775807"},
		{math.MinInt + 1, "-9223372036854775807"},
		{math.MinInt, "-9223372036854775808"},
	} {
		if s := impl.Decimal(c.n); s != c.want {
			t.Errorf("Decimal(%d) = %q; want %q", c.n, s, c.want)
		}
	}
	draw := rand.New(rand.NewSource(3))
	for range 2000 {
		n := int(draw.Uint64()) >> draw.Intn(64)
		if s := impl.Decimal(n); s != strconv.FormatInt(int64(n), 10) {
			t.Errorf("Decimal(%d) = %q", n, s)
		}
	}
}

func TestDecimalIsReadBack(t *testing.T) {
	for _, n := range numbersOfNote() {
		if got, ok := impl.ReadDecimal(impl.Decimal(n)); !ok || got != n {
			t.Errorf("Decimal of %d is read back as %d, %v", n, got, ok)
		}
	}
	for _, n := range numbersOutside() {
		if got, ok := impl.ReadDecimal(impl.Decimal(n)); ok || got != 0 {
			t.Errorf("ReadDecimal of Decimal of %d = %d, %v; want 0, false", n, got, ok)
		}
	}
}

func TestReadDecimalRefuses(t *testing.T) {
	for _, text := range []string{
		"", "-", "+", "-0", "-1", "+0", "+1", "00", "01", "007", "0000000001", "01000000000", "1000000001", "9999999999",
		"10000000000", "18446744073709551616", "18446744073709551621", strings.Repeat("9", 5000), strings.Repeat("0", 5000),
		" 1", "1 ", "1 2", "1_0", "1.0", "1e3", "0x1", "a", "1a", "f", "/", ":", "1/", "1:", "\x00", "1\x00", "\n", "1\n", "\xff", "٣", "１",
	} {
		if n, ok := impl.ReadDecimal(text); ok || n != 0 {
			t.Errorf("ReadDecimal(%.30q) = %d, %v; want 0, false", text, n, ok)
		}
	}
}

func TestReadDecimalOfShortTexts(t *testing.T) {
	for a := range 256 {
		checkReadDecimal(t, string([]byte{byte(a)}))
		for b := range 256 {
			checkReadDecimal(t, string([]byte{byte(a), byte(b)}))
		}
	}
}

func checkReadDecimal(t *testing.T, text string) {
	t.Helper()
	want, found := 0, false
	for n := range 100 {
		if strconv.Itoa(n) == text {
			want, found = n, true
		}
	}
	if n, ok := impl.ReadDecimal(text); n != want || ok != found {
		t.Errorf("ReadDecimal(%q) = %d, %v; want %d, %v", text, n, ok, want, found)
	}
}

func TestPartsOfLines(t *testing.T) {
	long := strings.Repeat("x", impl.MaxWords)
	for _, c := range []struct {
		line string
		want []string
	}{
		{"", nil},
		{" ", nil},
		{"     ", nil},
		{strings.Repeat(" ", impl.MaxWords), nil},
		{"a", []string{"a"}},
		{" a", []string{"a"}},
		{"a ", []string{"a"}},
		{"   a   ", []string{"a"}},
		{" tick  1 2 ", []string{"tick", "1", "2"}},
		{"say 1 10.0.0.1 ~!", []string{"say", "1", "10.0.0.1", "~!"}},
		{"# no", []string{"#", "no"}},
		{"a a a", []string{"a", "a", "a"}},
		{"a b c d e f g h i j", []string{"a", "b", "c", "d", "e", "f", "g", "h", "i", "j"}},
		{"  a b c d e f g h i   j  ", []string{"a", "b", "c", "d", "e", "f", "g", "h", "i", "j"}},
		{long, []string{long}},
		{long[:impl.MaxWords-2] + " y", []string{long[:impl.MaxWords-2], "y"}},
	} {
		if parts, ok := impl.PartsOf(c.line); !ok || !slices.Equal(parts, c.want) {
			t.Errorf("PartsOf(%.40q) = %q, %v; want %q", c.line, parts, ok, c.want)
		}
	}
}

func TestPartsOfRefuses(t *testing.T) {
	for _, line := range []string{
		strings.Repeat("x", impl.MaxWords+1),
		strings.Repeat(" ", impl.MaxWords+1),
		strings.Repeat("x", impl.MaxWords) + " ",
		"a b c d e f g h i j k",
		"  a b c d e f g h i j  k  ",
		strings.Repeat("a ", impl.MaxWords/2),
		"a\tb", "a\nb", "a\n", "\n", "\r", "\x00", "a b \x1f", "\x7f", "ä", "a\u00a0b", "\xff", "\x80 a",
	} {
		if parts, ok := impl.PartsOf(line); ok || len(parts) != 0 {
			t.Errorf("PartsOf(%.40q) = %q, %v; want nothing and false", line, parts, ok)
		}
	}
}

func TestPartsOfEveryByte(t *testing.T) {
	for b := range 256 {
		line := "a" + string([]byte{byte(b)}) + "c"
		var want []string
		if b == 32 {
			want = []string{"a", "c"}
		} else if b > 32 && b <= 126 {
			want = []string{line}
		}
		if parts, ok := impl.PartsOf(line); ok != (want != nil) || !slices.Equal(parts, want) {
			t.Errorf("PartsOf(%q) = %q, %v; want %q", line, parts, ok, want)
		}
	}
}

func TestPartsOfDrawnLines(t *testing.T) {
	draw := rand.New(rand.NewSource(4))
	for range 3000 {
		line, want := "", []string{}
		for range draw.Intn(13) {
			part := strings.Repeat(string(rune(33+draw.Intn(94))), 1+draw.Intn(4))
			want = append(want, part)
			line += strings.Repeat(" ", 1+draw.Intn(3)) + part
		}
		line = line[min(len(line), draw.Intn(2)):] + strings.Repeat(" ", draw.Intn(3))
		parts, ok := impl.PartsOf(line)
		if len(want) > impl.MaxParts {
			if ok || len(parts) != 0 {
				t.Errorf("PartsOf(%q) = %q, %v; want nothing and false", line, parts, ok)
			}
		} else if !ok || !slices.Equal(parts, want) {
			t.Errorf("PartsOf(%q) = %q, %v; want %q", line, parts, ok, want)
		}
	}
}

func TestPartsOfAnswersNewLists(t *testing.T) {
	first, _ := impl.PartsOf("a b c")
	first[0] = "changed"
	_ = append(first, "more")
	if again, ok := impl.PartsOf("a b c"); !ok || !slices.Equal(again, []string{"a", "b", "c"}) {
		t.Errorf("PartsOf again = %q, %v", again, ok)
	}
}
