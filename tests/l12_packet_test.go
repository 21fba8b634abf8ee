package tests

import (
	"encoding/binary"
	"math"
	"math/rand"
	"slices"
	"strings"
	"testing"
	"unsafe"

	"loop.example/g00193/impl"
)

const (
	opControl = 1
	opAck     = 2
	opData    = 3
	maxBody   = 120
	mostAcks  = 4
	lastKey   = 7
	mostNum   = 1000000000
	spareAck  = 77
)

func packetOf(op, key, from, to, num int, acks []int, body string) impl.Packet {
	return impl.Packet{Op: op, Key: key, From: from, To: to, Num: num, Acks: acks, Body: body}
}

func samePacket(a, b impl.Packet) bool {
	return a.Op == b.Op && a.Key == b.Key && a.From == b.From && a.To == b.To && a.Num == b.Num && slices.Equal(a.Acks, b.Acks) && a.Body == b.Body
}

// packetRightLike has a row of limits, and then what is barred of an Op.
func packetRightLike(p impl.Packet) bool {
	for _, row := range [][3]int{
		{p.Op, opControl, opData},
		{p.Key, 0, lastKey},
		{p.From, 1, 99},
		{p.To, 1, 99},
		{p.Num, 0, mostNum},
		{len(p.Acks), 0, mostAcks},
		{len(p.Body), 0, maxBody},
	} {
		if row[0] < row[1] || row[0] > row[2] {
			return false
		}
	}
	if slices.ContainsFunc(p.Acks, func(ack int) bool { return ack < 1 || ack > mostNum }) {
		return false
	}
	return !(p.Op == opData && len(p.Acks) > 0) && !(p.Op == opAck && (p.Num != 0 || p.Body != ""))
}

// packetBytesLike has the library write the numbers; of packets that are not
// right, too, as far as they have bytes.
func packetBytesLike(p impl.Packet) string {
	out := []byte{byte(p.Op<<3 + p.Key), byte(p.From), byte(p.To)}
	for _, n := range append([]int{p.Num, len(p.Acks)}, p.Acks...) {
		out = binary.AppendUvarint(out, uint64(n))
	}
	return string(out) + p.Body
}

func packetTextLike(p impl.Packet) string {
	return sealedLike(packetBytesLike(p))
}

// readPacketLike has the library read the numbers, in whatever form, and takes
// a packet only when its own text is the one that was read.
func readPacketLike(text string) (impl.Packet, bool) {
	rest := []byte(text)
	if len(rest) < 9 {
		return impl.Packet{}, false
	}
	p := impl.Packet{Op: int(rest[0] >> 3), Key: int(rest[0] & 7), From: int(rest[1]), To: int(rest[2])}
	rest = rest[3 : len(rest)-4]
	next := func() int {
		n, size := binary.Uvarint(rest)
		if size <= 0 || n > mostNum {
			return -1
		}
		rest = rest[size:]
		return int(n)
	}
	p.Num = next()
	for range min(next(), mostAcks+1) {
		p.Acks = append(p.Acks, next())
	}
	p.Body = string(rest)
	if !packetRightLike(p) || packetTextLike(p) != text {
		return impl.Packet{}, false
	}
	return p, true
}

func shareBytes(a, b string) bool {
	if a == "" || b == "" {
		return false
	}
	begin, other := uintptr(unsafe.Pointer(unsafe.StringData(a))), uintptr(unsafe.Pointer(unsafe.StringData(b)))
	return begin < other+uintptr(len(b)) && other < begin+uintptr(len(a))
}

// inLongerText lays a text into a longer one, so that what is behind it is
// there to be read by mistake.
func inLongerText(text string) string {
	return (text + "\x01\x01\x01\x01\x01\x01")[:len(text)]
}

func checkPacketOk(t *testing.T, p impl.Packet, want bool) {
	t.Helper()
	acks, room := inRoom(p.Acks, spareAck)
	before := slices.Clone(room)
	lent := p
	lent.Acks = acks
	if got := impl.PacketOk(lent); got != want {
		t.Errorf("PacketOk(%#v) = %v; want %v", p, got, want)
	}
	if !slices.Equal(room, before) {
		t.Errorf("PacketOk wrote into its argument: %v; want %v", room, before)
	}
}

func checkPacketText(t *testing.T, p impl.Packet, want string, right bool) {
	t.Helper()
	acks, room := inRoom(p.Acks, spareAck)
	before := slices.Clone(room)
	lent := p
	lent.Acks, lent.Body = acks, inLongerText(p.Body)
	got, ok := impl.PacketText(lent)
	if got != want || ok != right {
		t.Errorf("PacketText(%#v) = %x, %v; want %x, %v", p, got, ok, want, right)
	}
	if !slices.Equal(room, before) {
		t.Errorf("PacketText wrote into its argument: %v; want %v", room, before)
	}
	if shareBytes(got, lent.Body) {
		t.Errorf("PacketText(%#v) answers memory of its argument", p)
	}
}

// checkRead writes into the whole of the answer's list, and asks again.
func checkRead(t *testing.T, text string, want impl.Packet, right bool) {
	t.Helper()
	lent := inLongerText(text)
	got, ok := impl.ReadPacket(lent)
	if !samePacket(got, want) || ok != right {
		t.Errorf("ReadPacket(%x) = %#v, %v; want %#v, %v", text, got, ok, want, right)
	}
	if shareBytes(got.Body, lent) {
		t.Errorf("ReadPacket(%x) answers memory of its argument", text)
	}
	filled(got.Acks, spareAck)
	if again, ok := impl.ReadPacket(lent); !samePacket(again, want) || ok != right {
		t.Errorf("ReadPacket(%x) = %#v, %v the second time; want %#v, %v", text, again, ok, want, right)
	}
}

func checkReadLike(t *testing.T, text string) {
	t.Helper()
	want, right := readPacketLike(text)
	checkRead(t, text, want, right)
}

func checkNoPacket(t *testing.T, text string) {
	t.Helper()
	checkRead(t, text, impl.Packet{}, false)
}

func checkPacket(t *testing.T, p impl.Packet, text string) {
	t.Helper()
	checkPacketOk(t, p, true)
	checkPacketText(t, p, text, true)
	checkRead(t, text, p, true)
}

func checkWrongPacket(t *testing.T, p impl.Packet) {
	t.Helper()
	checkPacketOk(t, p, false)
	checkPacketText(t, p, "", false)
}

// checkBarred is of a packet whose fields all have bytes of their own, which
// are no other packet's.
func checkBarred(t *testing.T, p impl.Packet) {
	t.Helper()
	checkWrongPacket(t, p)
	checkNoPacket(t, packetTextLike(p))
}

func everyByte() string {
	out := make([]byte, 256)
	for b := range out {
		out[b] = byte(b)
	}
	return string(out)
}

// numsOfNote are on both sides of where a number takes a byte more.
func numsOfNote() []int {
	return []int{0, 1, 2, 99, 126, 127, 128, 129, 255, 256, 16383, 16384, 16385, 1<<21 - 1, 1 << 21, 1<<28 - 1, 1 << 28, mostNum - 1, mostNum}
}

func numsOutside() []int {
	return []int{-1, -2, -128, -mostNum, math.MinInt, math.MinInt + 1, mostNum + 1, mostNum + 2, 1 << 30, 1 << 32, 1<<32 + 3, math.MaxInt - 1, math.MaxInt}
}

func endsOutside() []int {
	return []int{0, -1, -99, 100, 101, 127, 128, 255, 256, 257, 1 << 32, 1<<32 + 1, math.MinInt, math.MinInt + 1, math.MaxInt}
}

func opsOutside() []int {
	return []int{0, 4, 5, 8, 31, 32, 33, -1, -2, -3, 257, 1<<32 + 1, 1 << 61, 1<<61 + 1, math.MinInt, math.MinInt + 1, math.MaxInt}
}

func keysOutside() []int {
	return []int{-1, -8, 8, 9, 15, 16, 256, 1 << 32, math.MinInt, math.MaxInt}
}

func bodiesOfNote() []string {
	every := everyByte()
	return []string{"", "x", "\x00", "\x80", "\xff", "\x01\x04", "\x00\x00\x00\x00", "äö", every[:maxBody], every[136:], strings.Repeat("z", maxBody-1), strings.Repeat("\xff", maxBody)}
}

func acksOfNote() [][]int {
	return [][]int{nil, {}, {1}, {mostNum}, {127}, {128}, {4, 3, 2, 1}, {5, 5, 5, 5}, {1, 127, 128, mostNum}, {mostNum, 16384, 16383}, {9, 8}}
}

// packetsOfNote are right: of each Op, with and without Acks and a Body.
func packetsOfNote() []impl.Packet {
	var list []impl.Packet
	for _, op := range []int{opControl, opAck, opData} {
		for place, acks := range acksOfNote() {
			for _, body := range bodiesOfNote() {
				for _, num := range numsOfNote() {
					p := packetOf(op, place%8, 1+place*9, 99-place*9, num, acks, body)
					if packetRightLike(p) {
						list = append(list, p)
					}
				}
			}
		}
	}
	return list
}

// fewPackets are right ones of each Op, for tests that do much with each.
func fewPackets() []impl.Packet {
	return []impl.Packet{
		packetOf(opControl, 0, 1, 2, 3, []int{4}, "x"),
		packetOf(opControl, 0, 1, 1, 0, nil, ""),
		packetOf(opControl, 7, 99, 99, mostNum, []int{mostNum, mostNum, mostNum, mostNum}, ""),
		packetOf(opControl, 3, 50, 7, 127, []int{1, 127, 128, 16384}, "\x01\x04"),
		packetOf(opControl, 1, 2, 3, 128, []int{9, 300}, strings.Repeat("b", maxBody)),
		packetOf(opAck, 0, 1, 1, 0, nil, ""),
		packetOf(opAck, 7, 99, 1, 0, []int{1, 128, mostNum}, ""),
		packetOf(opData, 0, 1, 99, 0, nil, ""),
		packetOf(opData, 7, 99, 1, 16384, nil, "\x00\xff\x80\n"),
		packetOf(opData, 5, 12, 34, 128, nil, strings.Repeat("a", maxBody)),
	}
}

func TestConstantsOfPackets(t *testing.T) {
	if impl.OpControl != opControl || impl.OpAck != opAck || impl.OpData != opData || impl.MaxBody != maxBody {
		t.Error("a constant is not the document's")
	}
}

func TestFixedPackets(t *testing.T) {
	for _, c := range []struct {
		p    impl.Packet
		want string
	}{
		{packetOf(1, 0, 1, 2, 3, []int{4}, "x"), "08010203010478d547327b"},
		{packetOf(1, 7, 99, 99, mostNum, []int{mostNum, mostNum, mostNum, mostNum}, ""), "0f63638094ebdc03048094ebdc038094ebdc038094ebdc038094ebdc031054af3c"},
		{packetOf(1, 0, 1, 1, 0, nil, ""), "0801010000d34fabd6"},
		{packetOf(1, 3, 50, 7, 127, []int{1, 127, 128, 16384}, "\x01\x04"), "0b32077f04017f8001808001010469e8662f"},
		{packetOf(1, 1, 2, 3, mostNum, []int{9, 9, 1, 5}, strings.Repeat("b", maxBody)), "0902038094ebdc030409090105" + strings.Repeat("62", maxBody) + "b4ae22f3"},
		{packetOf(2, 0, 1, 1, 0, nil, ""), "1001010000c3414ad4"},
		{packetOf(2, 7, 99, 1, 0, []int{1, 128, mostNum}, ""), "17630100030180018094ebdc0311b3f1c8"},
		{packetOf(3, 0, 1, 99, 0, nil, ""), "1801630000e3bd0792"},
		{packetOf(3, 7, 99, 1, 16384, nil, "\x00\xff\x80\n"), "1f63018080010000ff800a22c7c7d1"},
		{packetOf(3, 5, 12, 34, 128, nil, strings.Repeat("a", maxBody)), "1d0c22800100" + strings.Repeat("61", maxBody) + "e5f28e6c"},
	} {
		checkPacket(t, c.p, unhexed(t, c.want))
	}
}

func TestPacketsComeBack(t *testing.T) {
	for _, p := range append(packetsOfNote(), fewPackets()...) {
		checkPacket(t, p, packetTextLike(p))
	}
}

func TestPacketsAreReadAsTheyAreWritten(t *testing.T) {
	for _, p := range packetsOfNote() {
		text, ok := impl.PacketText(p)
		if !ok {
			t.Fatalf("PacketText(%#v) is refused", p)
		}
		if got, ok := impl.ReadPacket(text); !ok || !samePacket(got, p) {
			t.Errorf("%#v is read back as %#v, %v", p, got, ok)
		}
		if inner, ok := impl.Unsealed(text); !ok || inner != packetBytesLike(p) {
			t.Errorf("PacketText(%#v) is Unsealed as %x, %v; want %x", p, inner, ok, packetBytesLike(p))
		}
	}
}

func TestPacketsOfEveryKeyFromAndTo(t *testing.T) {
	for _, op := range []int{opControl, opAck, opData} {
		for from := 1; from <= 99; from++ {
			for to := 1; to <= 99; to++ {
				p := packetOf(op, (from+to)%8, from, to, 0, nil, "")
				checkPacket(t, p, packetTextLike(p))
			}
		}
		for key := 0; key <= lastKey; key++ {
			p := packetOf(op, key, 12, 34, 0, nil, "")
			checkPacket(t, p, string([]byte{byte(8*op + key)})+packetTextLike(p)[1:])
		}
	}
}

func TestPacketsOfManyNumbers(t *testing.T) {
	for _, n := range numbersOfNote() {
		for _, op := range []int{opControl, opData} {
			p := packetOf(op, 2, 3, 4, n, nil, "after")
			checkPacket(t, p, packetTextLike(p))
		}
		if n == 0 {
			continue
		}
		for _, acks := range [][]int{{n}, {n, 1}, {1, n}, {n, n, n, n}} {
			p := packetOf(opControl, 2, 3, 4, n, acks, "after")
			checkPacket(t, p, packetTextLike(p))
			p = packetOf(opAck, 2, 3, 4, 0, acks, "")
			checkPacket(t, p, packetTextLike(p))
		}
	}
}

func TestPacketsOfBodiesOfEverySize(t *testing.T) {
	for _, op := range []int{opControl, opData} {
		for size := range maxBody + 1 {
			p := packetOf(op, 2, 3, 4, 5, nil, drawnText(int64(size+161), size))
			checkPacket(t, p, packetTextLike(p))
		}
		for b := range 256 {
			p := packetOf(op, 2, 3, 4, 5, nil, everyByte()[b:b+1])
			checkPacket(t, p, packetTextLike(p))
		}
	}
}

// Acks stand as they came, in no order, and the same one twice.
func TestAcksKeepTheirOrder(t *testing.T) {
	for _, acks := range [][]int{{4, 3, 2, 1}, {1, 2, 3, 4}, {2, 4, 1, 3}, {5, 5, 5, 5}, {mostNum, 1, mostNum, 1}} {
		for _, p := range []impl.Packet{packetOf(opControl, 0, 1, 2, 3, acks, "x"), packetOf(opAck, 0, 1, 2, 0, acks, "")} {
			checkPacket(t, p, packetTextLike(p))
		}
	}
}

func TestNothingIsNoPacket(t *testing.T) {
	checkBarred(t, impl.Packet{})
	checkNoPacket(t, "")
}

func TestPacketsOfWrongOps(t *testing.T) {
	for _, p := range fewPackets() {
		for _, op := range opsOutside() {
			p.Op = op
			checkWrongPacket(t, p)
			checkReadLike(t, packetTextLike(p))
		}
	}
	for op := range 32 {
		if op < opControl || op > opData {
			for key := range 8 {
				checkBarred(t, packetOf(op, key, 1, 2, 0, nil, ""))
			}
		}
	}
}

func TestPacketsOfWrongKeys(t *testing.T) {
	for _, p := range fewPackets() {
		for _, key := range keysOutside() {
			p.Key = key
			checkWrongPacket(t, p)
			checkReadLike(t, packetTextLike(p))
		}
	}
}

func TestPacketsOfWrongEnds(t *testing.T) {
	for _, p := range fewPackets() {
		for _, end := range endsOutside() {
			from, to := p, p
			from.From, to.To = end, end
			checkWrongPacket(t, from)
			checkWrongPacket(t, to)
			checkReadLike(t, packetTextLike(from))
			checkReadLike(t, packetTextLike(to))
		}
	}
}

// At each place of the head every byte is a packet's, or it is not.
func TestEveryByteOfAHead(t *testing.T) {
	for b := range 256 {
		for _, c := range []struct {
			p     impl.Packet
			right bool
		}{
			{packetOf(b/8, b%8, 1, 2, 0, nil, ""), b >= 8 && b < 32},
			{packetOf(opControl, 5, b, 7, 0, nil, ""), b >= 1 && b <= 99},
			{packetOf(opAck, 5, 7, b, 0, nil, ""), b >= 1 && b <= 99},
			{packetOf(opData, 5, b, b, 0, nil, ""), b >= 1 && b <= 99},
		} {
			if c.right {
				checkPacket(t, c.p, packetTextLike(c.p))
			} else {
				checkBarred(t, c.p)
			}
		}
	}
}

func TestPacketsOfWrongNums(t *testing.T) {
	for _, p := range fewPackets() {
		for _, num := range numsOutside() {
			p.Num = num
			checkBarred(t, p)
		}
	}
}

func TestPacketsOfWrongAcks(t *testing.T) {
	for _, op := range []int{opControl, opAck, opData} {
		for _, ack := range append(numsOutside(), 0) {
			for _, acks := range [][]int{{ack}, {ack, 1}, {1, ack}, {1, 2, 3, ack}, {ack, 2, 3, 4}, {ack, ack, ack, ack}} {
				checkBarred(t, packetOf(op, 1, 2, 3, 0, acks, ""))
			}
		}
	}
}

func TestPacketsOfTooManyAcks(t *testing.T) {
	for _, op := range []int{opControl, opAck, opData} {
		for _, size := range []int{5, 6, 127, 128, 129, 1000} {
			checkBarred(t, packetOf(op, 1, 2, 3, 0, slices.Repeat([]int{1}, size), ""))
			checkBarred(t, packetOf(op, 1, 2, 3, 0, slices.Repeat([]int{mostNum}, size), ""))
		}
	}
	four := packetOf(opControl, 1, 2, 3, 4, []int{5, 6, 7, 8}, "x")
	checkPacket(t, four, packetTextLike(four))
	checkBarred(t, packetOf(opControl, 1, 2, 3, 4, []int{5, 6, 7, 8, 9}, "x"))
}

func TestDataHasNoAcks(t *testing.T) {
	for size := 1; size <= mostAcks; size++ {
		for _, ack := range []int{1, 4, 127, 128, mostNum} {
			for _, num := range []int{0, 3, mostNum} {
				for _, body := range []string{"", "x", strings.Repeat("a", maxBody)} {
					checkBarred(t, packetOf(opData, 1, 2, 3, num, slices.Repeat([]int{ack}, size), body))
				}
			}
		}
	}
	for _, acks := range [][]int{nil, {}, make([]int, 0, 9)} {
		p := packetOf(opData, 1, 2, 3, 4, acks, "x")
		checkPacket(t, p, packetTextLike(p))
	}
}

func TestAnAckHasAcksAlone(t *testing.T) {
	for _, acks := range acksOfNote() {
		right := packetOf(opAck, 1, 2, 3, 0, acks, "")
		checkPacket(t, right, packetTextLike(right))
		for _, body := range bodiesOfNote()[1:] {
			checkBarred(t, packetOf(opAck, 1, 2, 3, 0, acks, body))
			checkBarred(t, packetOf(opAck, 1, 2, 3, 1, acks, body))
		}
		for _, num := range numsOfNote()[1:] {
			checkBarred(t, packetOf(opAck, 1, 2, 3, num, acks, ""))
		}
	}
}

func TestPacketsOfTooLongBodies(t *testing.T) {
	for _, op := range []int{opControl, opAck, opData} {
		for _, size := range []int{maxBody + 1, maxBody + 2, 127, 128, 255, 256, 257, 376, 1000, impl.MaxText - 5, impl.MaxText - 4, impl.MaxText, impl.MaxText + 1} {
			checkBarred(t, packetOf(op, 1, 2, 3, 0, nil, drawnText(162, size)))
		}
	}
}

func TestUnsealedTextsAreNoPackets(t *testing.T) {
	for _, p := range fewPackets() {
		inner := packetBytesLike(p)
		sum := packetTextLike(p)[len(inner):]
		for _, text := range []string{
			inner,
			inner + "\x00\x00\x00\x00",
			inner + "\xff\xff\xff\xff",
			inner + sum[:3],
			inner + sum + "\x00",
			"\x00" + inner + sum,
			sum + inner,
			inner + sum[3:] + sum[2:3] + sum[1:2] + sum[:1],
			inner + string(binary.BigEndian.AppendUint32(nil, sumLike(0, inner))),
			sealedLike(inner + sum)[4:],
		} {
			checkNoPacket(t, text)
		}
	}
}

func TestShortTextsAreNoPackets(t *testing.T) {
	for size := range 5 {
		for _, text := range []string{strings.Repeat("\x00", size), strings.Repeat("\x01", size), "\x08\x01\x02\x00"[:min(size, 4)], drawnText(163, size)} {
			checkNoPacket(t, text)
			checkNoPacket(t, sealedLike(text))
		}
	}
}

func TestAPacketWithOneByteTurnedIsNone(t *testing.T) {
	for _, p := range fewPackets() {
		text := packetTextLike(p)
		for place := range len(text) {
			for turn := 1; turn < 256; turn++ {
				turned := []byte(text)
				turned[place] ^= byte(turn)
				if got, ok := impl.ReadPacket(string(turned)); ok || !samePacket(got, impl.Packet{}) {
					t.Errorf("%#v with byte %d turned by %d is read as %#v, %v", p, place, turn, got, ok)
				}
			}
		}
	}
}

func TestAPacketCutShortAndNotSealedAnewIsNone(t *testing.T) {
	for _, p := range fewPackets() {
		text := packetTextLike(p)
		for cut := 1; cut <= len(text); cut++ {
			checkNoPacket(t, text[cut:])
			checkNoPacket(t, text[:len(text)-cut])
		}
	}
}

// Cut behind its numbers, a packet has a shorter Body; cut in them, it is none.
func TestAPacketCutShortAndSealedAnew(t *testing.T) {
	for _, p := range fewPackets() {
		inner := packetBytesLike(p)
		numbers := len(inner) - len(p.Body)
		for end := range len(inner) {
			text := sealedLike(inner[:end])
			if end < numbers {
				checkNoPacket(t, text)
			} else {
				shorter := p
				shorter.Body = inner[numbers:end]
				checkRead(t, text, shorter, true)
			}
			checkReadLike(t, sealedLike(inner[end:]))
		}
	}
}

func TestAPacketMadeLongerAndSealedAnew(t *testing.T) {
	for _, p := range fewPackets() {
		inner := packetBytesLike(p)
		for _, more := range []string{"\x00", "\x01", "x", "\x80", "\xff", "\x00\x00\x00\x00", strings.Repeat("y", maxBody)} {
			longer := p
			longer.Body += more
			if p.Op == opAck || len(longer.Body) > maxBody {
				checkNoPacket(t, sealedLike(inner+more))
			} else {
				checkRead(t, sealedLike(inner+more), longer, true)
			}
			checkReadLike(t, sealedLike(more+inner))
			checkReadLike(t, sealedLike(inner[:3]+more+inner[3:]))
		}
		checkReadLike(t, sealedLike(inner+inner))
		checkReadLike(t, sealedLike(packetTextLike(p)))
	}
}

// longerForms are bytes that tell n but are not its VarText.
func longerForms(n int) []string {
	short := binary.AppendUvarint(nil, uint64(n))
	var list []string
	for more := 1; more <= 5; more++ {
		long := slices.Clone(short)
		for range more {
			long[len(long)-1] |= 128
			long = append(long, 0)
		}
		list = append(list, string(long))
	}
	return list
}

func TestLongerFormsOfNumbersAreNoPackets(t *testing.T) {
	for _, n := range []int{0, 1, 4, 127, 128, 16384, mostNum} {
		for _, form := range longerForms(n) {
			for _, head := range []string{"\x08\x01\x02", "\x18\x01\x02"} {
				checkNoPacket(t, sealedLike(head+form+"\x00"))
				checkNoPacket(t, sealedLike(head+form+"\x00x"))
			}
			if n > 0 {
				checkNoPacket(t, sealedLike("\x08\x01\x02\x03\x01"+form+"x"))
				checkNoPacket(t, sealedLike("\x08\x01\x02\x03\x02\x04"+form))
				checkNoPacket(t, sealedLike("\x10\x01\x02\x00\x01"+form))
			}
		}
	}
	for _, form := range longerForms(0) {
		for _, head := range []string{"\x08\x01\x02", "\x10\x01\x02", "\x18\x01\x02"} {
			checkNoPacket(t, sealedLike(head+"\x00"+form))
			checkNoPacket(t, sealedLike(head+form+"\x00"))
		}
	}
	for _, form := range longerForms(1) {
		checkNoPacket(t, sealedLike("\x08\x01\x02\x03"+form+"\x04x"))
		checkNoPacket(t, sealedLike("\x10\x01\x02\x00"+form+"\x04"))
	}
}

func TestNumbersWithoutAnEndAreNoPackets(t *testing.T) {
	for size := range 12 {
		endless := strings.Repeat("\x80", size)
		full := strings.Repeat("\xff", size+1)
		for _, begin := range []string{"\x08\x01\x02", "\x18\x01\x02", "\x08\x01\x02\x03", "\x08\x01\x02\x03\x01", "\x08\x01\x02\x03\x02\x04", "\x10\x01\x02\x00\x01"} {
			checkNoPacket(t, sealedLike(begin+endless))
			checkNoPacket(t, sealedLike(begin+full))
		}
	}
}

func TestMoreAcksToldThanThereAre(t *testing.T) {
	for _, text := range []string{
		"\x08\x01\x02\x03\x01",
		"\x08\x01\x02\x03\x02\x04",
		"\x08\x01\x02\x03\x03\x04\x05",
		"\x08\x01\x02\x03\x04\x04\x05\x06",
		"\x08\x01\x02\x03\x02\x04\x80",
		"\x08\x01\x02\x03\x04",
		"\x10\x01\x02\x00\x01",
		"\x10\x01\x02\x00\x04\x04\x05\x06",
		"\x18\x01\x02\x03\x01",
		"\x18\x01\x02\x03\x01\x04",
	} {
		checkNoPacket(t, sealedLike(text))
	}
	for _, count := range []int{5, 6, 127, 128, 129, 255, 256, 260, impl.MaxText, 1 << 20, mostNum, mostNum + 1, 1 << 32, 1<<32 + 1, math.MaxInt} {
		told := string(binary.AppendUvarint(nil, uint64(count)))
		checkNoPacket(t, sealedLike("\x08\x01\x02\x03"+told))
		checkNoPacket(t, sealedLike("\x08\x01\x02\x03"+told+"\x04"))
		checkNoPacket(t, sealedLike("\x08\x01\x02\x03"+told+strings.Repeat("\x04", 130)))
		checkNoPacket(t, sealedLike("\x10\x01\x02\x00"+told+strings.Repeat("\x04", 5)))
	}
}

// What is told to be no Ack is Body, and a Body's bytes that are told to be
// Acks are Acks: the bytes alone don't show what they were meant for.
func TestBytesAreWhatTheirCountTells(t *testing.T) {
	rest := "\x04\x05\x06\x07\x09"
	for count := range mostAcks + 1 {
		var acks []int
		for place := range count {
			acks = append(acks, int(rest[place]))
		}
		text := sealedLike("\x08\x01\x02\x03" + string([]byte{byte(count)}) + rest)
		checkRead(t, text, packetOf(opControl, 0, 1, 2, 3, acks, rest[count:]), true)
	}
	checkNoPacket(t, sealedLike("\x08\x01\x02\x03\x05"+rest))
	checkNoPacket(t, sealedLike("\x10\x01\x02\x00\x04"+rest))
	checkRead(t, sealedLike("\x10\x01\x02\x00\x04"+rest[:4]), packetOf(opAck, 0, 1, 2, 0, []int{4, 5, 6, 7}, ""), true)
}

func TestEveryTwoBytesBehindAHead(t *testing.T) {
	for _, head := range []string{"\x08\x01\x02", "\x10\x01\x02", "\x18\x01\x02"} {
		for first := range 256 {
			for second := range 256 {
				text := sealedLike(head + string([]byte{byte(first), byte(second)}))
				want, right := readPacketLike(text)
				if got, ok := impl.ReadPacket(text); !samePacket(got, want) || ok != right {
					t.Fatalf("ReadPacket(%x) = %#v, %v; want %#v, %v", text, got, ok, want, right)
				}
			}
		}
	}
}

// Few bytes are drawn from, so that many of the texts are packets.
func TestReadsOfDrawnTexts(t *testing.T) {
	draw := rand.New(rand.NewSource(164))
	bytes := "\x00\x00\x01\x01\x02\x03\x04\x05\x08\x0f\x10\x18\x1f\x20\x63\x64\x7f\x80\x81\xff"
	read := 0
	for range 100000 {
		text := []byte{"\x08\x10\x18\x1f\x07\x20"[draw.Intn(6)], byte(draw.Intn(101)), byte(draw.Intn(101))}
		for range draw.Intn(12) {
			text = append(text, bytes[draw.Intn(len(bytes))])
		}
		sealed := sealedLike(string(text))
		want, right := readPacketLike(sealed)
		got, ok := impl.ReadPacket(sealed)
		if !samePacket(got, want) || ok != right {
			t.Fatalf("ReadPacket(%x) = %#v, %v; want %#v, %v", sealed, got, ok, want, right)
		}
		if !ok {
			continue
		}
		read++
		if again, ok := impl.PacketText(got); !ok || again != sealed {
			t.Fatalf("%x is read as %#v, whose text is %x, %v", sealed, got, again, ok)
		}
	}
	if read < 1000 {
		t.Errorf("only %d of the drawn texts are packets", read)
	}
}

func drawnPacket(draw *rand.Rand) impl.Packet {
	nums := append(numsOfNote(), -1, mostNum+1)
	p := packetOf(draw.Intn(5), draw.Intn(10)-1, draw.Intn(101), draw.Intn(101), 0, nil, "")
	if draw.Intn(4) > 0 {
		p.Num = nums[draw.Intn(len(nums))]
		p.Body = drawnText(draw.Int63(), draw.Intn(maxBody+5))
	}
	if draw.Intn(3) > 0 {
		for range draw.Intn(mostAcks + 2) {
			p.Acks = append(p.Acks, nums[1+draw.Intn(len(nums)-1)])
		}
	}
	return p
}

func TestDrawnPackets(t *testing.T) {
	draw := rand.New(rand.NewSource(165))
	right := 0
	for range 20000 {
		p := drawnPacket(draw)
		if packetRightLike(p) {
			right++
			checkPacket(t, p, packetTextLike(p))
		} else {
			checkWrongPacket(t, p)
		}
	}
	if right < 1000 {
		t.Errorf("only %d of the drawn packets are right", right)
	}
}

func TestTwoAnswersOfAPacketShareNothing(t *testing.T) {
	for _, p := range fewPackets() {
		text := packetTextLike(p)
		first, _ := impl.ReadPacket(text)
		second, _ := impl.ReadPacket(text)
		if shareBytes(first.Body, second.Body) {
			t.Errorf("two answers of %x share their Body", text)
		}
		filled(first.Acks, spareAck)
		if !samePacket(second, p) {
			t.Errorf("an answer of %x changed: %#v; want %#v", text, second, p)
		}
	}
}

func TestRefusedPacketsLeaveNothingBehind(t *testing.T) {
	p := packetOf(opControl, 0, 1, 2, 3, []int{4}, "x")
	for range 3 {
		checkWrongPacket(t, packetOf(opData, 0, 1, 2, 3, []int{4}, "x"))
		checkWrongPacket(t, packetOf(opAck, 0, 1, 2, 3, []int{4}, "x"))
		checkNoPacket(t, "")
		checkNoPacket(t, sealedLike("\x08\x01\x02\x03\x04\x04\x05\x06"))
		checkPacket(t, p, unhexed(t, "08010203010478d547327b"))
	}
}
