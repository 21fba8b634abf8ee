package tests

import (
	"encoding/binary"
	"math"
	"math/rand"
	"slices"
	"strings"
	"sync"
	"testing"

	"loop.example/g00193/impl"
)

const (
	maxInner   = 100
	innerHead  = 8
	firstPlain = "\x00\x00\x00\x01"
	otherPlain = "\x00\x00\x00\x02"
)

func innerOf(src, dst int, text string) impl.Inner {
	return impl.Inner{Src: src, Dst: dst, Text: text}
}

func innerRightLike(x impl.Inner) bool {
	rows := [][3]int{{x.Src, 0, maxAddr}, {x.Dst, 0, maxAddr}, {len(x.Text), 0, maxInner}}
	return !slices.ContainsFunc(rows, func(row [3]int) bool { return row[0] < row[1] || row[0] > row[2] })
}

// innerTextLike has the library write both numbers at once; of packets that
// are not right, too, as far as they have bytes.
func innerTextLike(x impl.Inner) string {
	both := uint64(uint32(x.Src))<<32 | uint64(uint32(x.Dst))
	return string(binary.BigEndian.AppendUint64(nil, both)) + x.Text
}

// readInnerLike bounds the text as a whole.
func readInnerLike(text string) (impl.Inner, bool) {
	if len(text) < innerHead || len(text) > innerHead+maxInner {
		return impl.Inner{}, false
	}
	both := binary.BigEndian.Uint64([]byte(text[:innerHead]))
	return innerOf(int(both>>32), int(both&maxAddr), text[innerHead:]), true
}

func checkInnerOk(t *testing.T, x impl.Inner, want bool) {
	t.Helper()
	if got := impl.InnerOk(x); got != want {
		t.Errorf("InnerOk(%d, %d, %.200q) = %v; want %v", x.Src, x.Dst, x.Text, got, want)
	}
}

// checkInnerText asks twice, so that two answers can be held against each other.
func checkInnerText(t *testing.T, x impl.Inner, want string, right bool) {
	t.Helper()
	lent := x
	lent.Text = inLongerText(x.Text)
	var answers []string
	for range 2 {
		got, ok := impl.InnerText(lent)
		if got != want || ok != right {
			t.Errorf("InnerText(%d, %d, %.200q) = %x, %v; want %x, %v", x.Src, x.Dst, x.Text, got, ok, want, right)
		}
		answers = append(answers, got)
	}
	checkOwnTexts(t, "InnerText", []string{lent.Text}, answers...)
}

func checkReadInner(t *testing.T, text string, want impl.Inner, right bool) {
	t.Helper()
	lent := inLongerText(text)
	var answers []string
	for range 2 {
		got, ok := impl.ReadInner(lent)
		if got != want || ok != right {
			t.Errorf("ReadInner(%.200x) = %#v, %v; want %#v, %v", text, got, ok, want, right)
		}
		answers = append(answers, got.Text)
	}
	checkOwnTexts(t, "ReadInner", []string{lent}, answers...)
}

// checkReadInnerLike also holds what is read, written once more, against text.
func checkReadInnerLike(t *testing.T, text string) bool {
	t.Helper()
	want, right := readInnerLike(text)
	checkReadInner(t, text, want, right)
	got, ok := impl.ReadInner(text)
	if again, written := impl.InnerText(got); ok && (again != text || !written) {
		t.Errorf("%x is read as %#v, whose text is %x, %v", text, got, again, written)
	}
	return right
}

func checkNoInner(t *testing.T, text string) {
	t.Helper()
	checkReadInner(t, text, impl.Inner{}, false)
}

func checkInner(t *testing.T, x impl.Inner, text string) {
	t.Helper()
	checkInnerOk(t, x, true)
	checkInnerText(t, x, text, true)
	checkReadInner(t, text, x, true)
}

func checkWrongInner(t *testing.T, x impl.Inner) {
	t.Helper()
	checkInnerOk(t, x, false)
	checkInnerText(t, x, "", false)
}

// innerTextsOfNote are no longer than they may be.
func innerTextsOfNote() []string {
	every := everyByte()
	return []string{"", "x", "\x00", "\x80", "\xff", "\n", " ", "\x00\x00\x00\x00", firstPlain + otherPlain, "äö", "0.0.0.1", every[:maxInner], every[156:], strings.Repeat("z", maxInner-1), strings.Repeat("\x00", maxInner), strings.Repeat("\xff", maxInner)}
}

func fewInners() []impl.Inner {
	return []impl.Inner{
		{},
		innerOf(1, 2, "x"),
		innerOf(0, maxAddr, ""),
		innerOf(maxAddr, 0, "\x00"),
		innerOf(maxAddr, maxAddr, strings.Repeat("\xff", maxInner)),
		innerOf(0, 0, strings.Repeat("\x00", maxInner)),
		innerOf(0x01020304, 0x05060708, "\x09\x0a"),
		innerOf(167772418, 3232235777, drawnText(270, 57)),
	}
}

func TestConstantOfInners(t *testing.T) {
	if impl.MaxInner != maxInner {
		t.Errorf("MaxInner is %d; want 100", impl.MaxInner)
	}
}

func TestFixedInners(t *testing.T) {
	a := strings.Repeat("a", maxInner)
	for _, row := range []struct {
		src, dst int
		text     string
		want     string
	}{
		{0, 0, "", "\x00\x00\x00\x00\x00\x00\x00\x00"},
		{1, 2, "x", "\x00\x00\x00\x01\x00\x00\x00\x02x"},
		{2, 1, "", "\x00\x00\x00\x02\x00\x00\x00\x01"},
		{255, 256, "\x00", "\x00\x00\x00\xff\x00\x00\x01\x00\x00"},
		{65535, 65536, "ab", "\x00\x00\xff\xff\x00\x01\x00\x00ab"},
		{16777215, 16777216, "\xff", "\x00\xff\xff\xff\x01\x00\x00\x00\xff"},
		{0x01020304, 0x05060708, "\x09\x0a", "\x01\x02\x03\x04\x05\x06\x07\x08\x09\x0a"},
		{2147483647, 2147483648, "äö", "\x7f\xff\xff\xff\x80\x00\x00\x00\xc3\xa4\xc3\xb6"},
		{4294967295, 4294967294, "", "\xff\xff\xff\xff\xff\xff\xff\xfe"},
		{4294967295, 0, a, "\xff\xff\xff\xff\x00\x00\x00\x00" + a},
		{0, 4294967295, a[1:], "\x00\x00\x00\x00\xff\xff\xff\xff" + a[1:]},
		{3232235777, 167772161, "\x00\x00\x00\x00\x00\x00\x00\x00", "\xc0\xa8\x01\x01\x0a\x00\x00\x01\x00\x00\x00\x00\x00\x00\x00\x00"},
	} {
		checkInner(t, innerOf(row.src, row.dst, row.text), row.want)
	}
}

func TestFixedInnersThatAreNone(t *testing.T) {
	long := strings.Repeat("a", maxInner+1)
	for _, x := range []impl.Inner{
		innerOf(-1, 2, "x"),
		innerOf(1, -1, "x"),
		innerOf(4294967296, 2, "x"),
		innerOf(1, 4294967296, "x"),
		innerOf(1, 2, long),
		innerOf(-1, -1, long),
		innerOf(math.MinInt, 0, ""),
		innerOf(0, math.MinInt, ""),
		innerOf(math.MaxInt, 0, ""),
		innerOf(0, math.MaxInt, ""),
	} {
		checkWrongInner(t, x)
	}
	for _, text := range []string{"", "\x00", "x", "\x00\x00\x00", "\x00\x00\x00\x01", "\x00\x00\x00\x01\x00\x00\x00", "\xff\xff\xff\xff\xff\xff\xff", "\x00\x00\x00\x01\x00\x00\x00\x02" + long} {
		checkNoInner(t, text)
	}
}

// Promise 21, of the answers alone.
func TestInnersAreReadAsTheyAreWritten(t *testing.T) {
	for _, src := range addrsOfNote() {
		for _, dst := range addrsOfNote() {
			x := innerOf(src, dst, drawnText(int64(src^dst), (src+dst)%(maxInner+1)))
			text, ok := impl.InnerText(x)
			if !ok || !impl.InnerOk(x) {
				t.Fatalf("%#v is refused", x)
			}
			if got, ok := impl.ReadInner(text); !ok || got != x {
				t.Errorf("%#v is read back as %#v, %v", x, got, ok)
			}
		}
	}
}

func TestInnersComeBack(t *testing.T) {
	addrs := addrsOfNote()
	for place, src := range addrs {
		for _, text := range innerTextsOfNote() {
			for _, dst := range []int{0, 1, src, addrs[len(addrs)-1-place], maxAddr - 1, maxAddr} {
				x := innerOf(src, dst, text)
				checkInner(t, x, innerTextLike(x))
				x = innerOf(dst, src, text)
				checkInner(t, x, innerTextLike(x))
			}
		}
	}
}

func TestInnersOfEveryByteAndLength(t *testing.T) {
	for b := range 256 {
		one := string([]byte{byte(b)})
		for _, length := range []int{1, 2, maxInner - 1, maxInner} {
			x := innerOf(b, b<<24, strings.Repeat(one, length))
			checkInner(t, x, "\x00\x00\x00"+one+one+"\x00\x00\x00"+strings.Repeat(one, length))
		}
	}
	text := drawnText(271, maxInner+30)
	for length := range len(text) + 1 {
		x := innerOf(7, 8, text[:length])
		if length <= maxInner {
			checkInner(t, x, "\x00\x00\x00\x07\x00\x00\x00\x08"+text[:length])
		} else {
			checkWrongInner(t, x)
			checkNoInner(t, innerTextLike(x))
		}
	}
}

// An empty text is one of an inner packet; no text at all is none's.
func TestEmptyTextsOfInners(t *testing.T) {
	for _, src := range addrsOfNote() {
		x := innerOf(src, maxAddr-src, "")
		text := innerTextLike(x)
		if len(text) != innerHead {
			t.Fatalf("%x has %d bytes", text, len(text))
		}
		checkInner(t, x, text)
		checkNoInner(t, text[:innerHead-1])
		checkNoInner(t, text[1:])
	}
	checkInner(t, impl.Inner{}, strings.Repeat("\x00", innerHead))
	checkNoInner(t, "")
}

func TestTextsThatAreTooLongForInners(t *testing.T) {
	for _, length := range []int{101, 102, 107, 108, 109, 116, 120, 200, 255, 256, 257, 300, 356, 512, impl.MaxText, impl.MaxText + 1, 1 << 16, 1<<16 + 1, 1<<16 + 100, 1 << 20} {
		for _, one := range []string{"a", "\x00", "\xff"} {
			text := strings.Repeat(one, length)
			for _, ends := range [][2]int{{0, 0}, {1, 2}, {maxAddr, maxAddr}} {
				x := innerOf(ends[0], ends[1], text)
				checkWrongInner(t, x)
				checkNoInner(t, innerTextLike(x))
			}
		}
	}
}

// What is no address has an address' last 32 bits all the same.
func TestInnersOfAddressesThatAreNone(t *testing.T) {
	for _, wrong := range addrsOutside() {
		for _, right := range []int{0, 1, 167772418, maxAddr - 1, maxAddr} {
			for _, text := range []string{"", "x", strings.Repeat("y", maxInner), strings.Repeat("y", maxInner+1)} {
				checkWrongInner(t, innerOf(wrong, right, text))
				checkWrongInner(t, innerOf(right, wrong, text))
			}
		}
		for _, other := range addrsOutside() {
			checkWrongInner(t, innerOf(wrong, other, "x"))
		}
	}
}

func TestInnersAroundTheirLimits(t *testing.T) {
	texts := []string{"", "x", strings.Repeat("z", maxInner-1), strings.Repeat("z", maxInner), strings.Repeat("z", maxInner+1)}
	addrs := []int{math.MinInt, math.MinInt + 1, -maxAddr, -1, 0, 1, maxAddr - 1, maxAddr, maxAddr + 1, math.MaxInt - 1, math.MaxInt}
	right := 0
	for _, src := range addrs {
		for _, dst := range addrs {
			for _, text := range texts {
				x := innerOf(src, dst, text)
				if innerRightLike(x) {
					right++
					checkInner(t, x, innerTextLike(x))
				} else {
					checkWrongInner(t, x)
				}
			}
		}
	}
	if right != 4*4*4 {
		t.Errorf("%d are right; want 64", right)
	}
}

// Each one of the two numbers must stand whole.
func TestTextsTooShortForBothNumbers(t *testing.T) {
	for length := range innerHead {
		for b := range 256 {
			checkNoInner(t, strings.Repeat(string([]byte{byte(b)}), length))
		}
		for seed := range int64(50) {
			checkNoInner(t, drawnText(seed, length))
		}
	}
	for first := range 256 {
		for second := range 256 {
			checkNoInner(t, string([]byte{byte(first), byte(second)}))
		}
	}
}

// Cut at its end, a text has a shorter Text till its numbers are cut; cut at
// its beginning, it is another packet's.
func TestInnersCutShort(t *testing.T) {
	for _, x := range fewInners() {
		text := innerTextLike(x)
		for end := range len(text) {
			if end < innerHead {
				checkNoInner(t, text[:end])
			} else {
				checkReadInner(t, text[:end], innerOf(x.Src, x.Dst, x.Text[:end-innerHead]), true)
			}
			if checkReadInnerLike(t, text[end:]) != (len(text)-end >= innerHead) {
				t.Errorf("%d of %d bytes are read otherwise", len(text)-end, len(text))
			}
		}
	}
}

func TestInnersMadeLonger(t *testing.T) {
	for _, x := range fewInners() {
		text := innerTextLike(x)
		for _, more := range []string{"\x00", "\x01", "x", "\x80", "\xff", "\x00\x00\x00\x00", text, strings.Repeat("y", maxInner), strings.Repeat("y", maxInner+1)} {
			longer := x
			longer.Text += more
			if len(longer.Text) > maxInner {
				checkWrongInner(t, longer)
				checkNoInner(t, text+more)
			} else {
				checkInner(t, longer, text+more)
			}
			checkReadInnerLike(t, more+text)
			checkReadInnerLike(t, text[:4]+more+text[4:])
			checkReadInnerLike(t, text[:innerHead]+more+text[innerHead:])
		}
	}
}

// Each four bytes are an address, so that a spoilt number is another packet's;
// what is spoilt is seen at its place alone.
func TestASpoiltByteOfANumber(t *testing.T) {
	for _, x := range fewInners() {
		text := innerTextLike(x)
		for place := range innerHead {
			for turn := 1; turn < 256; turn++ {
				spoilt := []byte(text)
				spoilt[place] ^= byte(turn)
				want, moved := x, turn<<(8*(3-place%4))
				if place < 4 {
					want.Src ^= moved
				} else {
					want.Dst ^= moved
				}
				if want == x {
					t.Fatalf("%#v is not spoilt", x)
				}
				checkInner(t, want, string(spoilt))
			}
		}
	}
}

func TestASpoiltByteOfAText(t *testing.T) {
	for _, x := range fewInners() {
		text := innerTextLike(x)
		for place := innerHead; place < len(text); place++ {
			spoilt := []byte(text)
			spoilt[place] ^= 0x41
			checkInner(t, innerOf(x.Src, x.Dst, string(spoilt[innerHead:])), string(spoilt))
		}
	}
}

func TestNumbersOfInnersAreNotTurned(t *testing.T) {
	for _, src := range addrsOfNote() {
		for _, dst := range []int{0, 1, 0x01020304, maxAddr} {
			x, turned := innerOf(src, dst, "t"), innerOf(dst, src, "t")
			text, _ := impl.InnerText(x)
			other, _ := impl.InnerText(turned)
			if (text == other) != (src == dst) {
				t.Errorf("of %d and %d there are %x and %x", src, dst, text, other)
			}
			if text[:4] != impl.NumberText(src) || text[4:innerHead] != impl.NumberText(dst) {
				t.Errorf("of %d and %d there is %x", src, dst, text)
			}
		}
	}
}

// The text of one that is another one's Text.
func TestInnersInInners(t *testing.T) {
	text := "x"
	for depth := 1; ; depth++ {
		x := innerOf(depth, maxAddr-depth, text)
		if len(text) > maxInner {
			checkWrongInner(t, x)
			checkNoInner(t, innerTextLike(x))
			if depth != 14 {
				t.Errorf("at %d in each other they are too long; want 14", depth)
			}
			return
		}
		checkInner(t, x, innerTextLike(x))
		text = innerTextLike(x)
	}
}

func TestTextsOfEveryLengthAreRead(t *testing.T) {
	draw := rand.New(rand.NewSource(272))
	for length := range 3 * maxInner {
		for range 20 {
			read := checkReadInnerLike(t, drawnText(draw.Int63(), length))
			if read != (length >= 8 && length <= 108) {
				t.Errorf("a text of %d bytes is read: %v", length, read)
			}
		}
	}
}

// Two that are unlike never have one text.
func TestTextsOfInnersAreUnlike(t *testing.T) {
	seen := map[string]impl.Inner{}
	for _, src := range []int{0, 1, 256, maxAddr - 1, maxAddr} {
		for _, dst := range []int{0, 1, 256, maxAddr - 1, maxAddr} {
			for _, text := range innerTextsOfNote() {
				x := innerOf(src, dst, text)
				got, _ := impl.InnerText(x)
				if other, there := seen[got]; there {
					t.Errorf("%#v and %#v have one text: %x", x, other, got)
				}
				seen[got] = x
			}
		}
	}
}

func drawnInner(draw *rand.Rand) impl.Inner {
	drawnAddr := func() int {
		switch draw.Intn(8) {
		case 0:
			return draw.Intn(5) - 2
		case 1:
			return maxAddr - 2 + draw.Intn(5)
		case 2:
			return int(draw.Uint64())
		}
		return int(draw.Uint32())
	}
	return innerOf(drawnAddr(), drawnAddr(), drawnText(draw.Int63(), draw.Intn(maxInner+10)))
}

func TestDrawnInners(t *testing.T) {
	draw := rand.New(rand.NewSource(273))
	right := 0
	for range 20000 {
		x := drawnInner(draw)
		if innerRightLike(x) {
			right++
			checkInner(t, x, innerTextLike(x))
		} else {
			checkWrongInner(t, x)
		}
		checkReadInnerLike(t, innerTextLike(x))
	}
	if right < 5000 || right > 19000 {
		t.Errorf("%d of the drawn inner packets are right", right)
	}
}

func TestManyInnersShareNothing(t *testing.T) {
	var given, answered []string
	for _, x := range fewInners() {
		x.Text = inLongerText(x.Text)
		text := inLongerText(innerTextLike(x))
		given = append(given, x.Text, text)
		for range 3 {
			written, _ := impl.InnerText(x)
			read, _ := impl.ReadInner(text)
			again, _ := impl.ReadInner(written)
			rewritten, _ := impl.InnerText(read)
			answered = append(answered, written, read.Text, again.Text, rewritten)
		}
	}
	checkOwnTexts(t, "inner packets", given, answered...)
}

func TestRefusalsOfInnersLeaveNothingBehind(t *testing.T) {
	x := innerOf(1, 2, "x")
	for range 3 {
		checkWrongInner(t, innerOf(-1, 2, "x"))
		checkInner(t, x, firstPlain+otherPlain+"x")
		checkWrongInner(t, innerOf(1, maxAddr+1, "x"))
		checkInner(t, x, firstPlain+otherPlain+"x")
		checkWrongInner(t, innerOf(1, 2, strings.Repeat("x", maxInner+1)))
		checkInner(t, innerOf(1, 2, ""), firstPlain+otherPlain)
		checkNoInner(t, firstPlain+otherPlain[1:])
		checkInner(t, impl.Inner{}, "\x00\x00\x00\x00\x00\x00\x00\x00")
		checkNoInner(t, firstPlain+otherPlain+strings.Repeat("x", maxInner+1))
		checkInner(t, x, firstPlain+otherPlain+"x")
	}
}

func TestManyInnersAtOnce(t *testing.T) {
	var all sync.WaitGroup
	for worker := range 16 {
		all.Go(func() {
			for round := range 200 {
				x := innerOf(worker, maxAddr-round, strings.Repeat("w", (worker*round)%(maxInner+20)))
				text, written := impl.InnerText(x)
				got, read := impl.ReadInner(innerTextLike(x))
				right := innerRightLike(x)
				if written != right || read != right || right && (text != innerTextLike(x) || got != x) || !right && (text != "" || got != impl.Inner{}) {
					t.Errorf("at once %#v is written as %x, %v, and read as %#v, %v", x, text, written, got, read)
					return
				}
			}
		})
	}
	all.Wait()
}
