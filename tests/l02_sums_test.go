package tests

import (
	"encoding/binary"
	"hash/crc32"
	"math/rand"
	"strings"
	"testing"

	"loop.example/g00193/impl"
)

// sumLike answers as the document words it, a bit at a time.
func sumLike(sum uint32, text string) uint32 {
	for place := range len(text) {
		sum ^= uint32(text[place])
		for range 8 {
			odd := sum%2 == 1
			sum /= 2
			if odd {
				sum ^= 3558460437
			}
		}
	}
	return sum
}

// sealedLike joins a text with a sum of the test's own, whatever its length.
func sealedLike(text string) string {
	return text + string(binary.BigEndian.AppendUint32(nil, sumLike(4294967295, text)))
}

func sumsOfNote() []uint32 {
	list := []uint32{0, 1, 2, 15, 16, 127, 128, 255, 256, 65535, 3558460437, 1 << 31, 1<<31 - 1, 4294967294, 4294967295}
	draw := rand.New(rand.NewSource(21))
	for range 50 {
		list = append(list, draw.Uint32())
	}
	return list
}

func checkRefused(t *testing.T, what, text string) {
	t.Helper()
	if s, ok := impl.Unsealed(text); ok || s != "" {
		t.Errorf("%s: Unsealed answers %d bytes, %v; want nothing and false", what, len(s), ok)
	}
}

func TestSumMoreOfFixedTexts(t *testing.T) {
	for _, c := range []struct {
		sum  uint32
		text string
		want uint32
	}{
		{0, "", 0},
		{1, "", 1},
		{4294967295, "", 4294967295},
		{0, "\x00", 0},
		{0, "\x01", 735957071},
		{0, "\x80", 3558460437},
		{1 << 31, "\x00", 1 << 23},
		{4294967295, "\x00", 2175125468},
		{4294967295, "\xff\xff\xff\xff", 0},
		{0, "123456789", 2518010058},
		{4294967295, "123456789", 2026809993},
		{3558460437, "The way", 2612357398},
		{0, strings.Repeat("a", impl.MaxText), 4277796327},
	} {
		if got := impl.SumMore(c.sum, c.text); got != c.want {
			t.Errorf("SumMore(%d, %.20q of %d bytes) = %d; want %d", c.sum, c.text, len(c.text), got, c.want)
		}
	}
}

func TestSumOfFixedTexts(t *testing.T) {
	for _, c := range []struct {
		text string
		want uint32
	}{
		{"", 4294967295},
		{"\x00", 2175125468},
		{"a", 2675860630},
		{"abc", 2815232641},
		{"123456789", 2026809993},
		{"\xff\xff\xff\xff", 0},
		{strings.Repeat("a", impl.MaxText), 1235430276},
		{strings.Repeat("a", impl.MaxText+1), 1711050056},
	} {
		if got := impl.SumOf(c.text); got != c.want {
			t.Errorf("SumOf(%.20q of %d bytes) = %d; want %d", c.text, len(c.text), got, c.want)
		}
	}
}

func TestSumMoreOfEveryByte(t *testing.T) {
	for _, sum := range sumsOfNote() {
		for b := range 256 {
			text := string([]byte{byte(b)})
			if got, want := impl.SumMore(sum, text), sumLike(sum, text); got != want {
				t.Errorf("SumMore(%d, %q) = %d; want %d", sum, text, got, want)
			}
		}
	}
}

// The library's sum of this table turns every bit ahead and behind; the rest
// is the same rule, written by another hand.
func TestSumsAreThoseOfTheLibrary(t *testing.T) {
	table := crc32.MakeTable(3558460437)
	for _, text := range textsOfNote() {
		for _, sum := range []uint32{0, 1, 3558460437, 4294967295} {
			if got, want := impl.SumMore(sum, text), ^crc32.Update(^sum, table, []byte(text)); got != want {
				t.Errorf("SumMore(%d, a text of %d bytes) = %d; want %d", sum, len(text), got, want)
			}
		}
		if got, want := impl.SumOf(text), ^crc32.Checksum([]byte(text), table); got != want {
			t.Errorf("SumOf(a text of %d bytes) = %d; want %d", len(text), got, want)
		}
	}
}

func TestSumMoreGoesOn(t *testing.T) {
	for _, text := range textsOfNote() {
		for _, cut := range []int{0, len(text) / 3, len(text) / 2, max(len(text)-1, 0), len(text)} {
			if got, want := impl.SumMore(impl.SumOf(text[:cut]), text[cut:]), impl.SumOf(text); got != want {
				t.Errorf("SumMore of SumOf, cut at %d of %d bytes, = %d; want %d", cut, len(text), got, want)
			}
		}
	}
	text := "go on where it stopped"
	for _, sum := range sumsOfNote() {
		for cut := range len(text) + 1 {
			if got, want := impl.SumMore(impl.SumMore(sum, text[:cut]), text[cut:]), impl.SumMore(sum, text); got != want {
				t.Errorf("SumMore from %d, cut at %d, = %d; want %d", sum, cut, got, want)
			}
		}
	}
}

func TestSealedWrites(t *testing.T) {
	for _, c := range []struct{ text, want string }{
		{"", "\xff\xff\xff\xff"},
		{"\x00", "\x00\x81\xa5\xc7\xdc"},
		{"a", "a\x9f\x7e\x64\x96"},
		{"abc", "abc\xa7\xcd\x0a\x81"},
		{"\xff\xff\xff\xff", "\xff\xff\xff\xff\x00\x00\x00\x00"},
		{strings.Repeat("a", impl.MaxText), strings.Repeat("a", impl.MaxText) + "\x49\xa3\x2b\x84"},
	} {
		if s, ok := impl.Sealed(c.text); !ok || s != c.want {
			t.Errorf("Sealed of %d bytes ends with %x, %v; want %x", len(c.text), s[max(len(s)-4, 0):], ok, c.want[len(c.want)-4:])
		}
	}
}

func TestSealedRefuses(t *testing.T) {
	for _, size := range []int{impl.MaxText + 1, impl.MaxText + 4, impl.MaxText + 5, 3 * impl.MaxText} {
		if s, ok := impl.Sealed(strings.Repeat("a", size)); ok || s != "" {
			t.Errorf("Sealed of %d bytes answers %d bytes, %v; want nothing and false", size, len(s), ok)
		}
	}
}

func TestSealedIsUnsealed(t *testing.T) {
	for _, text := range textsOfNote() {
		s, ok := impl.Sealed(text)
		if !ok || s != sealedLike(text) {
			t.Fatalf("Sealed of %d bytes is wrong (%v)", len(text), ok)
		}
		if got, ok := impl.Unsealed(s); !ok || got != text {
			t.Errorf("Sealed of %d bytes is Unsealed as %d bytes, %v", len(text), len(got), ok)
		}
	}
}

func TestSealedTwiceIsUnsealedTwice(t *testing.T) {
	text := "within"
	once, _ := impl.Sealed(text)
	twice, _ := impl.Sealed(once)
	back, ok := impl.Unsealed(twice)
	if !ok || back != once {
		t.Fatalf("Unsealed(%q) = %q, %v; want %q", twice, back, ok, once)
	}
	if got, ok := impl.Unsealed(back); !ok || got != text {
		t.Errorf("Unsealed(%q) = %q, %v; want %q", back, got, ok, text)
	}
}

func TestOneByteTurnedIsNotUnsealed(t *testing.T) {
	for _, text := range []string{"", "\x00", "a", "abc", "\xff\xff\xff\xff", "\x00\x00\x00\x00\x00", "a text of some more bytes"} {
		s, _ := impl.Sealed(text)
		for place := range len(s) {
			for turn := 1; turn < 256; turn++ {
				turned := []byte(s)
				turned[place] ^= byte(turn)
				if got, ok := impl.Unsealed(string(turned)); ok || got != "" {
					t.Errorf("Sealed of %q with byte %d turned by %d is Unsealed as %q, %v", text, place, turn, got, ok)
				}
			}
		}
	}
}

func TestOneByteTurnedInLongTextsIsNotUnsealed(t *testing.T) {
	draw := rand.New(rand.NewSource(22))
	for _, text := range textsOfNote() {
		s, _ := impl.Sealed(text)
		places := []int{0, len(s) - 5, len(s) - 4, len(s) - 1}
		for range 5 {
			places = append(places, draw.Intn(len(s)))
		}
		for _, place := range places {
			if place < 0 {
				continue
			}
			turned := []byte(s)
			turned[place] ^= byte(1 + draw.Intn(255))
			if got, ok := impl.Unsealed(string(turned)); ok || got != "" {
				t.Errorf("Sealed of %d bytes with byte %d turned is Unsealed (%v)", len(text), place, ok)
			}
		}
	}
}

func TestUnsealedRefusesShortTexts(t *testing.T) {
	for _, text := range []string{"", "\x00", "\xff", "ab", "\xff\xff", "abc", "\xff\xff\xff"} {
		checkRefused(t, "fewer than four bytes", text)
	}
	for _, text := range []string{"\x00\x00\x00\x00", "\xff\xff\xff\xfe", "\x7f\xff\xff\xff", "abcd"} {
		checkRefused(t, "just four", text)
	}
	if s, ok := impl.Unsealed("\xff\xff\xff\xff"); !ok || s != "" {
		t.Errorf("Unsealed of the sum of nothing = %q, %v; want nothing and true", s, ok)
	}
}

func TestUnsealedRefusesTheOtherOrder(t *testing.T) {
	for _, text := range []string{"\x00", "a", "abc", "123456789", strings.Repeat("a", impl.MaxText)} {
		sum := sumLike(4294967295, text)
		checkRefused(t, "the lowest byte first", text+string(binary.LittleEndian.AppendUint32(nil, sum)))
		checkRefused(t, "the sum ahead", string(binary.BigEndian.AppendUint32(nil, sum))+text)
		checkRefused(t, "the sum with every bit turned", text+string(binary.BigEndian.AppendUint32(nil, ^sum)))
		checkRefused(t, "the sum that begins with 0", text+string(binary.BigEndian.AppendUint32(nil, sumLike(0, text))))
	}
}

func TestUnsealedRefusesAByteMoreOrFewer(t *testing.T) {
	for _, text := range []string{"", "\x00", "abc", strings.Repeat("\xff", 9), strings.Repeat("z", impl.MaxText)} {
		s, _ := impl.Sealed(text)
		for _, b := range []string{"\x00", "\x01", "a", "\xff"} {
			checkRefused(t, "a byte more behind", s+b)
			checkRefused(t, "a byte more between", text+b+s[len(text):])
			checkRefused(t, "a byte more ahead", b+s)
		}
		checkRefused(t, "a byte fewer behind", s[:len(s)-1])
		checkRefused(t, "a byte fewer ahead", s[1:])
		if text != "" {
			checkRefused(t, "the last byte of the text gone", text[:len(text)-1]+s[len(text):])
		}
	}
}

func TestUnsealedRefusesTooLong(t *testing.T) {
	for _, size := range []int{impl.MaxText + 1, impl.MaxText + 4, impl.MaxText + 5, 2 * impl.MaxText} {
		checkRefused(t, "a text longer than MaxText", sealedLike(strings.Repeat("a", size)))
	}
	longest := strings.Repeat("a", impl.MaxText)
	if s, ok := impl.Unsealed(sealedLike(longest)); !ok || s != longest {
		t.Errorf("Unsealed of MaxText bytes and their sum answers %d bytes, %v", len(s), ok)
	}
}
