package tests

import (
	"math"
	"math/rand"
	"slices"
	"strings"
	"sync"
	"testing"

	"loop.example/g00193/impl"
)

const mostSealed = 104

// unlockLike locks what it read once more.
func unlockLike(key string, num int, text string) (string, bool) {
	if len(text) < sizeOfATag || num < 0 || num > mostNum {
		return "", false
	}
	plain := []byte(text[:len(text)-sizeOfATag])
	mask := maskLike(key, num, len(plain))
	for place := range plain {
		plain[place] ^= mask[place]
	}
	if lockLike(key, num, string(plain)) != text {
		return "", false
	}
	return string(plain), true
}

func sealDataLike(s impl.Slots, from, to int, body string) (impl.Slots, impl.Packet, bool) {
	if !slotsRightLike(s) || s.Main.Epoch == 0 || s.Main.Count > maxCount-1 || !isWhoLike(from) || !isWhoLike(to) || len(body) > mostSealed {
		return s, impl.Packet{}, false
	}
	next := changedSlots(s, func(s *impl.Slots) { s.Main.Count++ })
	num := next.Main.Count
	return next, packetOf(opData, s.Main.Epoch&7, from, to, num, nil, lockLike(s.Main.Send, num, body)), true
}

// openDataLike asks no slot behind the first one that has the Key.
func openDataLike(s impl.Slots, p impl.Packet, now int) (impl.Slots, string, bool) {
	if !slotsRightLike(s) || !packetRightLike(p) || p.Op != opData {
		return s, "", false
	}
	next := cloneSlots(s)
	for place, slot := range []*impl.Slot{&next.Main, &next.Lame} {
		if slot.Epoch == 0 || slot.Epoch&7 != p.Key || place == 1 && slot.Until <= now {
			continue
		}
		text, opens := unlockLike(slot.Open, p.Num, p.Body)
		if !opens || !freshLike(slot.Seen, p.Num) {
			return s, "", false
		}
		slot.Seen = noteLike(slot.Seen, p.Num)
		return next, text, true
	}
	return s, "", false
}

func pairLike(seed string) (impl.Slots, impl.Slots) {
	a, b := digestLike(seed+"a"), digestLike(seed+"b")
	return slotsOf(impl.Slot{Epoch: 1, Send: a, Open: b}, impl.Slot{}), slotsOf(impl.Slot{Epoch: 1, Send: b, Open: a}, impl.Slot{})
}

func stepBothLike(s impl.Slots, now int) (impl.Slots, bool) {
	return installLike(s, digestLike(s.Main.Send+"k"), digestLike(s.Main.Open+"k"), now)
}

// checkSealData asks twice: what was written into the first answer must not be
// seen in the second one.
func checkSealData(t *testing.T, s impl.Slots, from, to int, body string, want impl.Slots, packet impl.Packet, right bool) {
	t.Helper()
	lent, lentBody := lendSlots(s), inLongerText(body)
	for range 2 {
		got, p, ok := impl.SealData(lent.s, from, to, lentBody)
		if !sameSlots(got, want) || !samePacket(p, packet) || ok != right {
			t.Errorf("SealData(%#v, %d, %d, %.120q) = %#v, %#v, %v; want %#v, %#v, %v", s, from, to, body, got, p, ok, want, packet, right)
		}
		if ok && !impl.PacketOk(p) {
			t.Errorf("SealData(%#v, %d, %d, %.120q) seals %#v, which is not right", s, from, to, body, p)
		}
		checkOwnTexts(t, "SealData", append(keysOfSlots(lent.room), lentBody), append(keysOfSlots(got), p.Body)...)
		checkDisjoint(t, "SealData", append(seenOfSlots(got, false), memoryOf(p.Acks, false, "Acks")), false)
		filled(p.Acks, spareAck)
		lent.checkAnswer(t, "SealData", got, lentBody)
	}
}

func checkNoSeal(t *testing.T, s impl.Slots, from, to int, body string) {
	t.Helper()
	checkSealData(t, s, from, to, body, s, impl.Packet{}, false)
}

func checkSealDataLike(t *testing.T, s impl.Slots, from, to int, body string) (impl.Slots, impl.Packet, bool) {
	t.Helper()
	want, packet, right := sealDataLike(s, from, to, body)
	checkSealData(t, s, from, to, body, want, packet, right)
	return want, packet, right
}

func checkOpenData(t *testing.T, s impl.Slots, p impl.Packet, now int, want impl.Slots, text string, right bool) {
	t.Helper()
	lent, given := lendSlots(s), p
	acks, room := inRoom(p.Acks, spareAck)
	were := slices.Clone(room)
	given.Acks, given.Body = acks, inLongerText(p.Body)
	for range 2 {
		got, opened, ok := impl.OpenData(lent.s, given, now)
		if !sameSlots(got, want) || opened != text || ok != right {
			t.Errorf("OpenData(%#v, %#v, %d) = %#v, %q, %v; want %#v, %q, %v", s, p, now, got, opened, ok, want, text, right)
		}
		checkOwnTexts(t, "OpenData", append(keysOfSlots(lent.room), given.Body), append(keysOfSlots(got), opened)...)
		checkDisjoint(t, "OpenData", append(seenOfSlots(got, false), memoryOf(room, true, "Acks")), false)
		lent.checkAnswer(t, "OpenData", got, given.Body)
		if !slices.Equal(room, were) {
			t.Errorf("OpenData wrote into its argument: %v; want %v", room, were)
		}
	}
}

func checkNotOpened(t *testing.T, s impl.Slots, p impl.Packet, now int) {
	t.Helper()
	checkOpenData(t, s, p, now, s, "", false)
}

// checkOpenedOnce opens p, and then the same once more, at which nothing comes.
func checkOpenedOnce(t *testing.T, s impl.Slots, p impl.Packet, now int, want impl.Slots, text string) {
	t.Helper()
	checkOpenData(t, s, p, now, want, text, true)
	checkNotOpened(t, want, p, now)
}

func checkOpenDataLike(t *testing.T, s impl.Slots, p impl.Packet, now int) (impl.Slots, string, bool) {
	t.Helper()
	want, text, right := openDataLike(s, p, now)
	checkOpenData(t, s, p, now, want, text, right)
	return want, text, right
}

func checkPair(t *testing.T, seed, a, b string) {
	t.Helper()
	lent := inLongerText(seed)
	for range 2 {
		one, other := impl.PairSlots(lent)
		if want := slotsOf(impl.Slot{Epoch: 1, Send: a, Open: b}, impl.Slot{}); !sameSlots(one, want) {
			t.Errorf("PairSlots(%.40q): the one is %#v; want %#v", seed, one, want)
		}
		if want := slotsOf(impl.Slot{Epoch: 1, Send: b, Open: a}, impl.Slot{}); !sameSlots(other, want) {
			t.Errorf("PairSlots(%.40q): the other one is %#v; want %#v", seed, other, want)
		}
		if !impl.SlotsOk(one) || !impl.SlotsOk(other) {
			t.Errorf("PairSlots(%.40q) are not right: %#v, %#v", seed, one, other)
		}
		checkOwnTexts(t, "PairSlots", []string{lent}, keysOfSlots(one)...)
		checkOwnTexts(t, "PairSlots", []string{lent}, keysOfSlots(other)...)
		checkDisjoint(t, "PairSlots", append(seenOfSlots(one, false), seenOfSlots(other, false)...), false)
		for _, s := range []impl.Slots{one, other} {
			filled(s.Main.Seen, -3)
			filled(s.Lame.Seen, -4)
		}
	}
}

func checkStepBoth(t *testing.T, s impl.Slots, now int, want impl.Slots, right bool) {
	t.Helper()
	lent := lendSlots(s)
	for range 2 {
		got, ok := impl.StepBoth(lent.s, now)
		if !sameSlots(got, want) || ok != right {
			t.Errorf("StepBoth(%#v, %d) = %#v, %v; want %#v, %v", s, now, got, ok, want, right)
		}
		lent.checkAnswer(t, "StepBoth", got)
	}
}

func checkNoStep(t *testing.T, s impl.Slots, now int) {
	t.Helper()
	checkStepBoth(t, s, now, s, false)
}

func checkStepBothLike(t *testing.T, s impl.Slots, now int) (impl.Slots, bool) {
	t.Helper()
	want, right := stepBothLike(s, now)
	checkStepBoth(t, s, now, want, right)
	return want, right
}

// dataFor is what the other end of a slot would seal for it.
func dataFor(slot impl.Slot, num int, body string) impl.Packet {
	return packetOf(opData, slot.Epoch&7, 1, 2, num, nil, lockLike(slot.Open, num, body))
}

// noted is s with other numbers seen by Main.
func noted(s impl.Slots, seen ...int) impl.Slots {
	return changedSlots(s, func(s *impl.Slots) { s.Main.Seen = seen })
}

func lameNoted(s impl.Slots, seen ...int) impl.Slots {
	return changedSlots(s, func(s *impl.Slots) { s.Lame.Seen = seen })
}

func counted(s impl.Slots, count int) impl.Slots {
	return changedSlots(s, func(s *impl.Slots) { s.Main.Count = count })
}

// textsToSeal are of every edge of a body, and of what may look like more.
func textsToSeal() []string {
	every := everyByte()
	return []string{"", "x", "hi", "\x00", "\xff\x80\n", "äö", strings.Repeat("\x00", sizeOfATag), every[:mostSealed], every[256-mostSealed:], strings.Repeat("y", mostSealed-1), strings.Repeat("\xff", mostSealed)}
}

// The keys and the bodies below were worked out outside this program.
func TestFixedPairs(t *testing.T) {
	for _, row := range [][3]string{
		{"", "ca978112ca1bbdcafac231b39a23dc4da786eff8147c4e72b9807785afee48bb", "3e23e8160039594a33894f6564e1b1348bbd7a0088d42c4acb73eeaed59c009d"},
		{"s", "4cf6829aa93728e8f3c97df913fb1bfa95fe5810e2933a05943f8312a98d9cf2", "b831b33e0c05b45e15bbdd9b3bfa43825fee0aa0b6e5a54e31e2bd8b073b76b7"},
		{"\x00", "022a6979e6dab7aa5ae4c3e5e45f7e977112a7e63593820dbec1ec738a24f93c", "57eb35615d47f34ec714cacdf5fd74608a5e8e102724e80b24b287c0c27b6a31"},
		{"s1", "eb15425aadb738df883762effef19fe3c7e5e5a014d5f70d64a1c79426ba4cb9", "ab22d638646cd95f42f985451e33d6a787d58d418b32ebf9aafdf3cccddd1cf4"},
		{"\xff\x80\n", "cdf84188fe79baccc81f52b93f3b9703cbecfdd7a463f19b7df9791eb83a4332", "7f2e007dd7c42b5ee09f2a77362ff3b1682b2422b7bea5c5d1d8ab75c2f3f400"},
		{strings.Repeat("l", 1000), "d4e666112d367f2a8cc18dea3ab545a274933ea1fb6143937512a022175a7ccd", "4e5d55f52c778b66fd88181284a7e8593374973b2c5b52f0cbb2b2fb2a1daf3e"},
	} {
		checkPair(t, row[0], unhexed(t, row[1]), unhexed(t, row[2]))
	}
}

func TestPairsOfEverySize(t *testing.T) {
	for size := range 140 {
		seed := drawnText(240, size)
		checkPair(t, seed, digestLike(seed+"a"), digestLike(seed+"b"))
	}
	for _, size := range []int{1000, impl.MaxText, impl.MaxText + 1, 100000} {
		seed := drawnText(241, size)
		checkPair(t, seed, digestLike(seed+"a"), digestLike(seed+"b"))
	}
}

func TestPairsOfOtherSeedsOpenNothing(t *testing.T) {
	seeds := []string{"", "a", "b", "s", "s1", "aa", "S", "s\x00"}
	for _, seed := range seeds {
		one, other := pairLike(seed)
		for _, strange := range seeds {
			a, b := pairLike(strange)
			for _, p := range []impl.Packet{dataFor(a.Main, 1, "hi"), dataFor(b.Main, 1, "hi")} {
				_, _, first := checkOpenDataLike(t, one, p, 0)
				_, _, second := checkOpenDataLike(t, other, p, 0)
				if (first || second) != (seed == strange) || first && second {
					t.Errorf("of the seed %q, opened by that of %q: %v, %v", strange, seed, first, second)
				}
			}
		}
	}
}

type fixedData struct {
	epoch int
	end   int
	num   int
	body  string
	want  string
}

func fixedDatas() []fixedData {
	x := strings.Repeat("x", mostSealed)
	return []fixedData{
		{1, 0, 1, "", "a903dd0075c460892c003df3d7b640ac"},
		{1, 1, 1, "", "6119883f67fab130e4e8fa1919f1f00f"},
		{1, 0, 1, "hi", "1010ea00702f4ff0e98ca8112b6e6a9e2aa5"},
		{1, 1, 1, "hi", "c87c8a8027e662f92b4a4caedf3ba7b066ce"},
		{1, 0, 2, "hi", "e9436c26a2ec280fb2a0f38290b9ce05f746"},
		{1, 1, 2, "hi", "9cb6183112ca77b30b4561fff8ff24822b3e"},
		{1, 0, 12, "hi", "1f41ce7457cdd27e3a122cdd6d66d1a56263"},
		{1, 1, 12, "hi", "4f4dfd322666e35a994514a2d1eec65b9cba"},
		{1, 0, 3, "\x00\xff\x80\n", "415b383b4eba6fc0b4ce33e7bad8ff6a4ed9fa67"},
		{1, 1, 3, "\x00\xff\x80\n", "a84776e5092498e40cba46d64fc43dcca8bfbc6e"},
		{1, 0, 12, x, "0f5036784e2494d13301a5a7a1cf4da6c1e55109c610482c88771b92dfb41d98c46bba399b29a89ba84bca7f9e3bf090244494001c8d06e7e1aae71085e38769bb472d63be005c4feaf85e09e34d91f021c85174fb227e12400b0c6af18283fa2520256d8c68b5df523f11bf52866d3bc085a63f87db1772"},
		{1, 1, 12, x, "5f5c05da807a3f9c2acef6153b02c156f22037b97601a1c24ca76117b3306d7125137290aedfba7084222504a0ddfa0103043a8705f88acd07b14a6278285a33e474cd0290164eb30676654f550f209b19ef926613e604754dc952d5ee84ed8a86d43de44ae125bbf0e4b29c6b62fa4e4ff046539ed52a5e"},
		{2, 0, 1, "", "0670ac231f80b0adc849af016b6e0509"},
		{2, 1, 1, "hi", "33b8b676735d656124b58477172cc9f9223d"},
		{2, 0, 3, "\x00\xff\x80\n", "fb6d792f37bdf094498acf1d1a017b4ee111cafa"},
		{3, 0, 2, "hi", "3e7594938fcd299a1ea9a61bc952906b0108"},
		{3, 1, 12, "hi", "baff67496feda1521e173536b1d5d7843fc9"},
		{4, 0, 12, "hi", "90ee2d591b36031d4eace96c27559c9f743c"},
		{4, 1, 12, x, "87b7db4f362b958c356bde496519f0c802c3626184791f88ca0d6031667c3cdfa385b0030d6c5f1835fd969aa2d144ff1bfe23ee3596256eace19818ecb50bfe593132d5b5db4747c3eea45f0403f928eaa6ed895f85369536a7f8ea0b9057664fc0987dfc9de5f6a25d64307d9fca37a4454b88513e4e80"},
	}
}

// endsAt are both ends of PairSlots of `s`, stepped at 0 to that Epoch.
func endsAt(t *testing.T, epoch int) [2]impl.Slots {
	t.Helper()
	one, other := impl.PairSlots("s")
	for one.Main.Epoch < epoch {
		var oneOk, otherOk bool
		one, oneOk = impl.StepBoth(one, 0)
		other, otherOk = impl.StepBoth(other, 0)
		if !oneOk || !otherOk {
			t.Fatalf("%#v and %#v came of steps to %d", one, other, epoch)
		}
	}
	return [2]impl.Slots{one, other}
}

func TestFixedData(t *testing.T) {
	for _, row := range fixedDatas() {
		ends := endsAt(t, row.epoch)
		p := packetOf(opData, row.epoch, 1, 2, row.num, nil, unhexed(t, row.want))
		checkSealData(t, counted(ends[row.end], row.num-1), 1, 2, row.body, counted(ends[row.end], row.num), p, true)
		checkOpenedOnce(t, ends[1-row.end], p, 0, noted(ends[1-row.end], row.num), row.body)
		checkNotOpened(t, ends[row.end], p, 0)
		strange := endsAt(t, row.epoch+1)
		checkOpenedOnce(t, strange[1-row.end], p, 9, lameNoted(strange[1-row.end], row.num), row.body)
		checkNotOpened(t, strange[1-row.end], p, 10)
		checkNotOpened(t, endsAt(t, row.epoch+2)[1-row.end], p, 0)
	}
}

// What one seals the other one opens, and the other way round, as long as
// there are numbers; nobody opens what is his own.
func TestWhatOneSealsTheOtherOpens(t *testing.T) {
	for _, seed := range []string{"", "s", "s1", drawnText(242, 100)} {
		ends := [2]impl.Slots{}
		ends[0], ends[1] = impl.PairSlots(seed)
		for place := range maxCount {
			for from := range ends {
				text := "of " + impl.Decimal(from) + " at " + impl.Decimal(place)
				next, p, ok := checkSealDataLike(t, ends[from], 1+from, 2-from, text)
				if !ok || p.Num != place+1 || p.Key != 1 || p.From != 1+from || p.To != 2-from || p.Op != opData {
					t.Fatalf("%#v seals %#v, %v", ends[from], p, ok)
				}
				ends[from] = next
				checkNotOpened(t, ends[from], p, 0)
				opened, got, ok := checkOpenDataLike(t, ends[1-from], p, 0)
				if !ok || got != text {
					t.Fatalf("%#v opens %#v as %q, %v; want %q", ends[1-from], p, got, ok, text)
				}
				ends[1-from] = opened
				checkNotOpened(t, ends[1-from], p, 0)
			}
		}
		for from, s := range ends {
			checkNoSeal(t, s, 1+from, 2-from, "")
		}
	}
}

func TestTextsOfEverySize(t *testing.T) {
	ends := endsAt(t, 1)
	for size := range mostSealed + 1 {
		text := drawnText(int64(300+size), size)
		_, p, ok := checkSealDataLike(t, ends[0], 1, 2, text)
		if !ok || len(p.Body) != size+sizeOfATag {
			t.Fatalf("a text of %d bytes is sealed as %#v, %v", size, p, ok)
		}
		checkOpenedOnce(t, ends[1], p, 0, noted(ends[1], 1), text)
	}
	for _, text := range textsToSeal() {
		next, p, _ := checkSealDataLike(t, ends[1], 99, 1, text)
		checkOpenedOnce(t, ends[0], p, 0, noted(ends[0], 1), text)
		checkSealDataLike(t, next, 99, 1, text)
	}
	for _, size := range []int{105, 106, 119, 120, 121, 136, 255, 256, 256 + 104, 8000, 8001, impl.MaxText, 1 << 16} {
		for _, s := range []impl.Slots{ends[0], ends[1], fullSlots(), counted(fullSlots(), 11)} {
			checkNoSeal(t, s, 1, 2, strings.Repeat("z", size))
		}
	}
}

// The longest body fills a packet just so.
func TestTheLongestText(t *testing.T) {
	text := drawnText(243, 104)
	ends := endsAt(t, 1)
	next, p, ok := impl.SealData(ends[0], 1, 2, text)
	if !ok || len(p.Body) != impl.MaxBody || next.Main.Count != 1 {
		t.Errorf("104 bytes are sealed as %#v, %v", p, ok)
	}
	written, _ := impl.PacketText(p)
	read, ok := impl.ReadPacket(written)
	if !ok {
		t.Fatalf("%#v does not come back from its bytes", p)
	}
	checkOpenedOnce(t, ends[1], read, 0, noted(ends[1], 1), text)
	checkNoSeal(t, ends[0], 1, 2, text+"z")
}

func TestCountsAreSpent(t *testing.T) {
	for _, epoch := range []int{1, 2, 7, 8, 9, mostNum} {
		for count := range maxCount + 1 {
			s := slotsOf(slotAt(epoch, count, 4, 9, 8, 6), impl.Slot{})
			next, p, ok := checkSealDataLike(t, s, 3, 4, "text")
			if ok != (count <= 11) {
				t.Errorf("at Count %d SealData is %v", count, ok)
			}
			if ok && (next.Main.Count != count+1 || p.Num != count+1 || p.Key != epoch%8) {
				t.Errorf("at Count %d %#v seals %#v", count, next, p)
			}
		}
	}
	last := slotsOf(slotAt(5, 11, 4, 9, 8, 6), slotAt(4, maxCount, 25, 7, 5))
	spent, p, _ := checkSealDataLike(t, last, 1, 2, "last")
	if !impl.Spent(spent) || p.Num != 12 {
		t.Errorf("%#v seals %#v, and is %#v", last, p, spent)
	}
	checkNoSeal(t, spent, 1, 2, "one more")
	next, _ := checkStepBothLike(t, spent, 3)
	_, p, ok := checkSealDataLike(t, next, 1, 2, "first")
	if !ok || p.Num != 1 || p.Key != 6 {
		t.Errorf("%#v seals %#v, %v", next, p, ok)
	}
}

// Lame's Count does not matter, nor does its Until.
func TestLameSealsNothing(t *testing.T) {
	for _, lame := range []impl.Slot{{}, slotAt(4, 0, 0), slotAt(4, maxCount, 0, 3), slotAt(4, maxCount, mostNum), slotAt(1, 3, 20, 9, 8)} {
		s := slotsOf(slotAt(5, 3, 4, 9, 8, 6), lame)
		want := slotsOf(slotAt(5, 4, 4, 9, 8, 6), lame)
		checkSealData(t, s, 7, 8, "text", want, packetOf(opData, 5, 7, 8, 4, nil, lockLike(keyNamed("s5"), 4, "text")), true)
		checkNoSeal(t, slotsOf(slotAt(5, maxCount, 4, 9, 8, 6), lame), 7, 8, "text")
	}
}

func TestEndsOfData(t *testing.T) {
	s := fullSlots()
	for _, from := range []int{-1, 0, 1, 2, 50, 98, 99, 100, 101} {
		for _, to := range []int{-1, 0, 1, 2, 50, 98, 99, 100, 101} {
			_, p, ok := checkSealDataLike(t, s, from, to, "text")
			if ok != (from >= 1 && from <= 99 && to >= 1 && to <= 99) || ok && (p.From != from || p.To != to) {
				t.Errorf("from %d to %d %#v, %v is sealed", from, to, p, ok)
			}
		}
	}
	for _, wrong := range endsOutside() {
		checkNoSeal(t, s, wrong, 1, "text")
		checkNoSeal(t, s, 1, wrong, "text")
		checkNoSeal(t, s, wrong, wrong, "text")
	}
}

// Who a packet is from and to is not looked at beyond PacketOk.
func TestDataOfAnyEndsIsOpened(t *testing.T) {
	s := fullSlots()
	for _, from := range []int{1, 2, 98, 99} {
		for _, to := range []int{1, 2, 98, 99} {
			p := dataFor(s.Main, 7, "text")
			p.From, p.To = from, to
			checkOpenedOnce(t, s, p, 0, noted(s, 9, 8, 7, 6), "text")
		}
	}
}

func TestWrongSlotsSealAndOpenNothing(t *testing.T) {
	for _, s := range wrongPairs() {
		checkNoSeal(t, s, 1, 2, "text")
		for _, slot := range []impl.Slot{s.Main, s.Lame} {
			if slot.Epoch > 0 {
				checkNotOpened(t, s, dataFor(slot, 7, "text"), 0)
			}
		}
		checkNotOpened(t, s, packetOf(opData, 0, 1, 2, 1, nil, lockLike("", 1, "text")), -1)
		for _, now := range []int{math.MinInt, -1, 0, 7, lastInstall, math.MaxInt} {
			checkNoStep(t, s, now)
		}
	}
}

func TestRightPairsSealAndOpen(t *testing.T) {
	for _, s := range rightPairs() {
		checkSealDataLike(t, s, 1, 2, "text")
		for _, slot := range []impl.Slot{s.Main, s.Lame} {
			for _, num := range []int{0, 1, 3, 5, 7, 10, 1000, mostNum} {
				for _, now := range []int{-1, 4, slot.Until - 1, slot.Until} {
					checkOpenDataLike(t, s, dataFor(slot, num, "text"), now)
				}
			}
		}
		checkStepBothLike(t, s, 7)
	}
}

// wrongDatas are packets that s would open, were they right, or of OpData.
func wrongDatas(s impl.Slots) []impl.Packet {
	base := dataFor(s.Main, 7, "text")
	var list []impl.Packet
	add := func(change func(*impl.Packet)) {
		p := base
		change(&p)
		list = append(list, p)
	}
	for _, op := range append(opsOutside(), opControl, opAck) {
		add(func(p *impl.Packet) { p.Op = op })
	}
	for _, key := range append(keysOutside(), s.Main.Epoch, s.Main.Epoch&7+8, s.Main.Epoch&7-8) {
		if key < 0 || key > lastKey {
			add(func(p *impl.Packet) { p.Key = key })
		}
	}
	for _, wrong := range endsOutside() {
		add(func(p *impl.Packet) { p.From = wrong })
		add(func(p *impl.Packet) { p.To = wrong })
	}
	for _, acks := range [][]int{{1}, {0}, {7}, {1, 2, 3, 4}, {1, 2, 3, 4, 5}} {
		add(func(p *impl.Packet) { p.Acks = acks })
	}
	for _, num := range numsOutside() {
		add(func(p *impl.Packet) { p.Num = num })
	}
	for _, size := range []int{105, 106, 200, 1000} {
		list = append(list, dataFor(s.Main, 7, strings.Repeat("z", size)))
	}
	return append(list, packetOf(opAck, s.Main.Epoch&7, 1, 2, 0, nil, ""), packetOf(opControl, s.Main.Epoch&7, 1, 2, 7, []int{7}, base.Body), impl.Packet{})
}

func TestWrongPacketsAreNotOpened(t *testing.T) {
	for _, s := range []impl.Slots{fullSlots(), slotsOf(slotAt(8, 3, 4, 9, 8, 6), impl.Slot{}), slotsOf(slotAt(15, 3, 4, 9, 8, 6), slotAt(8, 3, 25, 7))} {
		checkOpenedOnce(t, s, dataFor(s.Main, 7, "text"), 0, noted(s, 9, 8, 7, 6), "text")
		for _, p := range wrongDatas(s) {
			checkNotOpened(t, s, p, 0)
			checkNotOpened(t, impl.Slots{}, p, 0)
		}
	}
	checkOpenedOnce(t, fullSlots(), dataFor(fullSlots().Main, 7, strings.Repeat("z", 104)), 0, noted(fullSlots(), 9, 8, 7, 6), strings.Repeat("z", 104))
}

func TestNothingSealsAndOpensNothing(t *testing.T) {
	for _, s := range []impl.Slots{{}, slotsOf(impl.Slot{Seen: []int{}}, impl.Slot{Seen: []int{}})} {
		checkNoSeal(t, s, 1, 2, "")
		checkNoSeal(t, s, 1, 2, "text")
		for key := range lastKey + 1 {
			for _, now := range []int{math.MinInt, -1, 0, 1, math.MaxInt} {
				checkNotOpened(t, s, packetOf(opData, key, 1, 2, 1, nil, lockLike("", 1, "text")), now)
				checkNotOpened(t, s, packetOf(opData, key, 1, 2, 0, nil, ""), now)
			}
		}
	}
}

// Lame that is nothing has Epoch 0, but not Key 0.
func TestLameThatIsNothingOpensNothing(t *testing.T) {
	for epoch := 1; epoch <= 17; epoch++ {
		s := slotsOf(slotAt(epoch, 3, 4, 9, 8, 6), impl.Slot{})
		for _, now := range []int{math.MinInt, -1, 0, 1} {
			checkNotOpened(t, s, packetOf(opData, 0, 1, 2, 7, nil, lockLike("", 7, "text")), now)
			checkOpenedOnce(t, s, dataFor(s.Main, 7, "text"), now, noted(s, 9, 8, 7, 6), "text")
		}
	}
}

// Both are asked for packets of either and of a stranger, under every Key.
func TestKeysOfEveryTwoEpochs(t *testing.T) {
	stranger := slotAt(1000, 0, 0)
	for mainEpoch := 1; mainEpoch <= 26; mainEpoch++ {
		for lameEpoch := 1; lameEpoch < mainEpoch; lameEpoch++ {
			s := slotsOf(slotAt(mainEpoch, 3, 4, 9, 8, 6), slotAt(lameEpoch, maxCount, 25, 7, 5))
			for key := range lastKey + 1 {
				ofMain, ofLame, ofNone := dataFor(s.Main, 10, "main"), dataFor(s.Lame, 9, "lame"), dataFor(stranger, 10, "none")
				ofMain.Key, ofLame.Key, ofNone.Key = key, key, key
				if key == mainEpoch%8 {
					checkOpenedOnce(t, s, ofMain, 24, noted(s, 10, 9, 8, 6), "main")
				} else {
					checkNotOpened(t, s, ofMain, 24)
				}
				if key == lameEpoch%8 && key != mainEpoch%8 {
					checkOpenedOnce(t, s, ofLame, 24, lameNoted(s, 9, 7, 5), "lame")
				} else {
					checkNotOpened(t, s, ofLame, 24)
				}
				checkNotOpened(t, s, ofLame, 25)
				checkNotOpened(t, s, ofNone, 24)
			}
		}
	}
}

// What has the Key of both is for Main alone, whatever it is.
func TestMainAndLameWithOneKey(t *testing.T) {
	for _, epochs := range [][2]int{{9, 1}, {16, 8}, {17, 1}, {15, 7}, {mostNum, 8}, {mostNum, mostNum - 8}} {
		s := slotsOf(slotAt(epochs[0], 3, 4, 9, 8, 6), slotAt(epochs[1], maxCount, 25, 7, 5))
		for _, now := range []int{-1, 0, 24, 25} {
			checkOpenedOnce(t, s, dataFor(s.Main, 7, "main"), now, noted(s, 9, 8, 7, 6), "main")
			checkOpenedOnce(t, s, dataFor(s.Main, 5, "main"), now, noted(s, 9, 8, 6, 5), "main")
			checkNotOpened(t, s, dataFor(s.Main, 8, "main"), now)
			checkNotOpened(t, s, dataFor(s.Lame, 8, "lame"), now)
			checkNotOpened(t, s, dataFor(s.Lame, 4, "lame"), now)
			checkNotOpened(t, s, dataFor(s.Lame, 10, "lame"), now)
		}
		s.Lame.Send, s.Lame.Open = s.Main.Send, s.Main.Open
		checkOpenedOnce(t, s, dataFor(s.Lame, 7, "both"), 0, noted(s, 9, 8, 7, 6), "both")
		checkNotOpened(t, s, dataFor(s.Lame, 9, "seen by Main alone"), 0)
		checkOpenedOnce(t, s, dataFor(s.Lame, 5, "seen by Lame alone"), 0, noted(s, 9, 8, 6, 5), "seen by Lame alone")
	}
}

// Of one and the same keys the Epochs alone tell whose a packet is.
func TestOneOpenUnderTwoEpochs(t *testing.T) {
	s := slotsOf(slotAt(5, 3, 4, 9, 8, 6), slotAt(4, maxCount, 25, 7, 5))
	s.Lame.Send, s.Lame.Open = s.Main.Send, s.Main.Open
	for _, num := range []int{3, 4, 5, 6, 7, 8, 9, 10, 11} {
		checkOpenDataLike(t, s, dataFor(s.Main, num, "text"), 0)
		checkOpenDataLike(t, s, dataFor(s.Lame, num, "text"), 0)
	}
	checkOpenedOnce(t, s, dataFor(s.Main, 7, "text"), 0, noted(s, 9, 8, 7, 6), "text")
	checkOpenedOnce(t, s, dataFor(s.Lame, 8, "text"), 0, lameNoted(s, 8, 7, 5), "text")
}

func TestLameOpensTillItsUntil(t *testing.T) {
	for _, until := range []int{0, 1, 2, 10, 25, 1000, mostNum - 1, mostNum} {
		s := slotsOf(slotAt(5, 3, until, 9, 8, 6), slotAt(4, maxCount, until, 7, 5))
		p := dataFor(s.Lame, 8, "lame")
		for by := 1; by <= 12; by++ {
			checkOpenedOnce(t, s, p, until-by, lameNoted(s, 8, 7, 5), "lame")
			checkNotOpened(t, s, p, until+by)
		}
		checkNotOpened(t, s, p, until)
		for _, now := range []int{math.MinInt, -mostNum, -1, until - 1, until, until + 1, mostNum + 1, math.MaxInt} {
			checkOpenedOnce(t, s, dataFor(s.Main, 7, "main"), now, noted(s, 9, 8, 7, 6), "main")
			checkOpenDataLike(t, s, p, now)
		}
	}
}

func TestSealingLooksAtNoUntil(t *testing.T) {
	for _, until := range []int{0, 1, mostNum} {
		s := slotsOf(slotAt(5, 3, until, 9, 8, 6), slotAt(4, 2, until, 7, 5))
		if _, _, ok := checkSealDataLike(t, s, 1, 2, "text"); !ok {
			t.Errorf("%#v seals nothing", s)
		}
	}
}

// Each number beside a few that were seen: seen, too far behind, and far ahead.
func TestNumbersOfData(t *testing.T) {
	for _, seen := range [][]int{nil, {1}, {6}, {7}, {9, 8, 6}, {12, 7}, {6, 5, 4, 3, 2, 1}, downFrom(mostNum, replaySpan), {mostNum}, {mostNum - 1}} {
		s := slotsOf(slotAt(5, 3, 4, seen...), slotAt(4, 2, 25, 3))
		other := slotsOf(slotAt(5, 3, 4, 3), slotAt(4, 2, 25, seen...))
		nums := upFrom(0, 22)
		nums = append(nums, 127, 128, 16383, 16384, 1<<21, 1<<28, mostNum/2)
		nums = append(nums, upFrom(mostNum-8, 9)...)
		for _, num := range nums {
			next, _, ok := checkOpenDataLike(t, s, dataFor(s.Main, num, "text"), 0)
			if ok != freshLike(seen, num) || ok && !slices.Equal(next.Main.Seen, noteLike(seen, num)) {
				t.Errorf("%d beside %v is opened: %v; then %v are seen", num, seen, ok, next.Main.Seen)
			}
			checkOpenDataLike(t, other, dataFor(other.Lame, num, "text"), 24)
		}
	}
}

func TestFixedNumbersOfData(t *testing.T) {
	ends := endsAt(t, 1)
	for _, row := range []struct {
		num  int
		want string
	}{
		{7, "86bebe78fa8321fb0c39e0438f745a0f49a13d"},
		{128, "7d76341a4d848724feb1d408f0b3a0a6e06a27"},
		{999999999, "b2dbd1ca7cbefcab605c8b501857506ae1865b"},
		{1000000000, "2ce29842cf2e0faff2af0b9d3483cd458dfe8c"},
	} {
		p := packetOf(opData, 1, 1, 2, row.num, nil, unhexed(t, row.want))
		for _, seen := range [][]int{nil, {1}, {row.num - 1}, {row.num - 1, row.num - 6}} {
			s := noted(ends[1], seen...)
			checkOpenedOnce(t, s, p, 0, noted(s, noteLike(seen, row.num)...), "far")
		}
		checkNotOpened(t, noted(ends[1], row.num), p, 0)
		checkNotOpened(t, noted(ends[1], min(row.num+6, mostNum), row.num), p, 0)
		checkNotOpened(t, ends[0], p, 0)
	}
}

func TestATurnedBitOfData(t *testing.T) {
	s := fullSlots()
	for _, text := range []string{"", "x", "hi", strings.Repeat("y", mostSealed)} {
		for _, p := range []impl.Packet{dataFor(s.Main, 7, text), dataFor(s.Lame, 8, text)} {
			for place := range len(p.Body) {
				for bit := range 8 {
					body := []byte(p.Body)
					body[place] ^= 1 << bit
					turned := p
					turned.Body = string(body)
					checkNotOpened(t, s, turned, 0)
				}
			}
			checkOpenDataLike(t, s, p, 0)
		}
	}
}

func TestPiecesOfDataAreNotOpened(t *testing.T) {
	s := fullSlots()
	for _, text := range []string{"", "x", "hi", drawnText(244, 50), drawnText(245, mostSealed)} {
		p := dataFor(s.Main, 7, text)
		whole := p.Body
		for size := range len(whole) {
			p.Body = whole[:size]
			checkNotOpened(t, s, p, 0)
			p.Body = whole[len(whole)-size:]
			checkNotOpened(t, s, p, 0)
		}
		for _, more := range []string{"\x00", "x", whole} {
			p.Body = whole + more
			checkNotOpened(t, s, p, 0)
			p.Body = more + whole
			checkNotOpened(t, s, p, 0)
		}
		p.Body = text
		checkNotOpened(t, s, p, 0)
	}
}

func TestDataUnderAnotherNum(t *testing.T) {
	s := slotsOf(slotAt(5, 3, 4), slotAt(4, 3, 25))
	for num := range 20 {
		for as := range 20 {
			p, q := dataFor(s.Main, num, "text"), dataFor(s.Lame, num, "text")
			p.Num, q.Num = as, as
			if num == as && num > 0 {
				checkOpenedOnce(t, s, p, 0, noted(s, num), "text")
				checkOpenedOnce(t, s, q, 0, lameNoted(s, num), "text")
			} else {
				checkNotOpened(t, s, p, 0)
				checkNotOpened(t, s, q, 0)
			}
		}
	}
}

// What is not opened is not noted: the true one is opened behind it.
func TestWhatIsMadeUpBarsNothing(t *testing.T) {
	s := endsAt(t, 2)[1]
	for _, num := range []int{1, 5, 12, 1000, mostNum} {
		p := dataFor(s.Main, num, "true")
		for _, body := range []string{"", "made up", strings.Repeat("m", 30), strings.Repeat("m", maxBody)} {
			made := p
			made.Body = body
			next, _, ok := impl.OpenData(s, made, 0)
			if ok {
				t.Fatalf("%#v is opened", made)
			}
			checkOpenedOnce(t, next, p, 0, noted(s, num), "true")
		}
	}
}

// Each order of seven packets, the first five of which come twice.
func TestDataInEveryOrder(t *testing.T) {
	ends := endsAt(t, 1)
	var packets []impl.Packet
	from := ends[0]
	for place := range 7 {
		var p impl.Packet
		from, p, _ = impl.SealData(from, 1, 2, "text "+impl.Decimal(place+1))
		packets = append(packets, p)
	}
	var try func(order []int)
	try = func(order []int) {
		if len(order) < len(packets) {
			for num := 1; num <= len(packets); num++ {
				if !slices.Contains(order, num) {
					try(append(slices.Clone(order), num))
				}
			}
			return
		}
		told := append(order, order[:5]...)
		to := ends[1]
		var opened []int
		for _, num := range told {
			next, text, ok := impl.OpenData(to, packets[num-1], 0)
			if ok && text == "text "+impl.Decimal(num) {
				opened = append(opened, num)
			}
			to = next
		}
		if want := takeAllLike(told); !slices.Equal(opened, want) {
			t.Errorf("of %v %v are opened; want %v", told, opened, want)
		}
	}
	try(nil)
}

func TestLateData(t *testing.T) {
	ends := endsAt(t, 1)
	var packets []impl.Packet
	for range maxCount {
		var p impl.Packet
		ends[0], p, _ = impl.SealData(ends[0], 1, 2, "text")
		packets = append(packets, p)
	}
	for first, p := range packets {
		to, _, ok := checkOpenDataLike(t, ends[1], p, 0)
		if !ok {
			t.Fatalf("%#v is not opened", p)
		}
		for late, q := range packets {
			if _, _, ok := checkOpenDataLike(t, to, q, 0); ok != (late != first && late > first-replaySpan) {
				t.Errorf("%d behind %d is opened: %v", late+1, first+1, ok)
			}
		}
	}
}

func TestFixedSteps(t *testing.T) {
	keys := [][2]string{
		{"4cf6829aa93728e8f3c97df913fb1bfa95fe5810e2933a05943f8312a98d9cf2", "b831b33e0c05b45e15bbdd9b3bfa43825fee0aa0b6e5a54e31e2bd8b073b76b7"},
		{"cdcd8f58569900df17e1f0b021ab040774aaad083830765ddf90af8d3b6d9402", "e14f5e76cdbfb21c252eeabe5e8aed71dcd44c99f1021a70297db447813fb8f6"},
		{"d237ca8a2ff618a50a96ab0a16eb24b31b4eb727ac8c728a6e41956930f32750", "0076ca6106821da55e6397859d267ec896c29ad361f2af4575011156f89dadb8"},
		{"559484f0c428b78d2f141c2701de7d11378da6b47ecde44b499eea4f0ff3569c", "6c1ec5d191433e7cc4f5e808fe5f5702a6873003c6f756fbf9498eaca12c95d7"},
	}
	one, other := impl.PairSlots("s")
	for place, row := range keys[1:] {
		a, b := unhexed(t, row[0]), unhexed(t, row[1])
		now := 7 * (place + 1)
		oneNext := slotsOf(impl.Slot{Epoch: place + 2, Send: a, Open: b}, changedSlot(one.Main, func(s *impl.Slot) { s.Until = now + 10 }))
		otherNext := slotsOf(impl.Slot{Epoch: place + 2, Send: b, Open: a}, changedSlot(other.Main, func(s *impl.Slot) { s.Until = now + 10 }))
		checkStepBoth(t, one, now, oneNext, true)
		checkStepBoth(t, other, now, otherNext, true)
		// Both are used ahead of the next step, as they would be by packets.
		one, other = noted(counted(oneNext, 3), 5, 4), noted(counted(otherNext, maxCount), 2)
	}
}

// From nothing on the keys come of empty ones: the chapter bars it not.
func TestStepsFromNothing(t *testing.T) {
	key := unhexed(t, "8254c329a92850f6d539dd376f4816ee2764517da5e0235514af433164480d7a")
	want := slotsOf(impl.Slot{Epoch: 1, Send: key, Open: key}, impl.Slot{})
	for _, now := range []int{0, 1, lastInstall} {
		checkStepBoth(t, impl.Slots{}, now, want, true)
	}
	checkSealData(t, want, 1, 2, "hi", counted(want, 1), packetOf(opData, 1, 1, 2, 1, nil, unhexed(t, "0002ea555a95a011dbc053cd967c38f50c3a")), true)
	for _, now := range installTimesOutside() {
		checkNoStep(t, impl.Slots{}, now)
	}
}

func TestStepsAtEveryTime(t *testing.T) {
	for _, s := range []impl.Slots{fullSlots(), endsAt(t, 1)[0], endsAt(t, 3)[1], counted(fullSlots(), maxCount)} {
		for _, now := range []int{0, 1, 2, 10, 1000, lastInstall - 1, lastInstall} {
			next, ok := checkStepBothLike(t, s, now)
			if !ok || next.Lame.Until != now+10 || next.Main.Count != 0 || len(next.Main.Seen) > 0 {
				t.Errorf("StepBoth(%#v, %d) = %#v, %v", s, now, next, ok)
			}
		}
		for _, now := range installTimesOutside() {
			checkNoStep(t, s, now)
		}
	}
}

func TestStepsToTheLastEpoch(t *testing.T) {
	s := slotsOf(slotAt(mostNum-2, 3, 0, 4), impl.Slot{})
	for _, epoch := range []int{mostNum - 1, mostNum} {
		next, ok := checkStepBothLike(t, s, 7)
		if !ok || next.Main.Epoch != epoch {
			t.Fatalf("StepBoth(%#v) = %#v, %v", s, next, ok)
		}
		s = next
		_, p, ok := checkSealDataLike(t, s, 1, 2, "text")
		if !ok || p.Key != epoch%8 {
			t.Errorf("at Epoch %d %#v is sealed, %v", epoch, p, ok)
		}
	}
	checkNoStep(t, s, 7)
}

// Behind a step of both, new data goes on, and what was sealed ahead of it is
// opened by Lame till its Until.
func TestDataAroundAStep(t *testing.T) {
	ends := endsAt(t, 1)
	for epoch := 1; epoch <= 20; epoch++ {
		now := 20 * epoch
		for from := range ends {
			to := 1 - from
			sealed, ahead, _ := checkSealDataLike(t, ends[from], 1+from, 1+to, "ahead")
			twice := sealed
			sealed, late, _ := checkSealDataLike(t, twice, 1+from, 1+to, "late")
			came, _, ok := checkOpenDataLike(t, ends[to], ahead, now)
			if !ok {
				t.Fatalf("at Epoch %d %#v is not opened by %#v", epoch, ahead, ends[to])
			}
			ends[from], ends[to] = sealed, came
			stepped, _ := checkStepBothLike(t, came, now)
			for by := range 15 {
				next, text, ok := checkOpenDataLike(t, stepped, late, now+by)
				if ok != (by < lameTime) || ok && text != "late" {
					t.Errorf("at Epoch %d, %d behind the step, %#v is opened as %q, %v", epoch, by, late, text, ok)
				}
				checkNotOpened(t, stepped, ahead, now+by)
				checkNotOpened(t, next, late, now+by)
			}
			steppedOn, _ := checkStepBothLike(t, stepped, now)
			checkNotOpened(t, steppedOn, late, now)
		}
		for from := range ends {
			stepped, ok := checkStepBothLike(t, ends[from], now)
			if !ok || stepped.Main.Epoch != epoch+1 {
				t.Fatalf("StepBoth(%#v) = %#v, %v", ends[from], stepped, ok)
			}
			ends[from] = stepped
		}
		for from := range ends {
			_, p, _ := checkSealDataLike(t, ends[from], 1, 2, "new")
			checkOpenedOnce(t, ends[1-from], p, now, noted(ends[1-from], 1), "new")
			if p.Key != (epoch+1)%8 || p.Num != 1 {
				t.Errorf("at Epoch %d %#v is sealed", epoch+1, p)
			}
		}
	}
}

// Who steps alone is not understood any more, but understands a while.
func TestAStepOfOneEnd(t *testing.T) {
	ends := endsAt(t, 1)
	ahead, _ := checkStepBothLike(t, ends[0], 5)
	_, p, _ := checkSealDataLike(t, ahead, 1, 2, "from ahead")
	checkNotOpened(t, ends[1], p, 5)
	_, q, _ := checkSealDataLike(t, ends[1], 2, 1, "from behind")
	checkOpenedOnce(t, ahead, q, 14, lameNoted(ahead, 1), "from behind")
	checkNotOpened(t, ahead, q, 15)
	behind, _ := checkStepBothLike(t, ends[1], 30)
	checkOpenedOnce(t, behind, p, 30, noted(behind, 1), "from ahead")
}

// Eight steps on the Key is the same once more, and the keys are others.
func TestKeysOfAnotherEpoch(t *testing.T) {
	for epoch := 1; epoch <= 9; epoch++ {
		behind := endsAt(t, epoch)
		for _, further := range []int{8, 16} {
			ahead := endsAt(t, epoch+further)
			for from := range behind {
				_, old, _ := impl.SealData(behind[from], 1, 2, "old")
				_, young, _ := impl.SealData(ahead[from], 1, 2, "young")
				if old.Key != young.Key || old.Num != young.Num {
					t.Fatalf("%#v and %#v", old, young)
				}
				checkNotOpened(t, ahead[1-from], old, 0)
				checkNotOpened(t, behind[1-from], young, 0)
				checkOpenedOnce(t, ahead[1-from], young, 0, noted(ahead[1-from], 1), "young")
				checkOpenedOnce(t, behind[1-from], old, 0, noted(behind[1-from], 1), "old")
			}
		}
	}
}

// crossing is a packet under way, and what is known of it beside its bytes.
type crossing struct {
	to    int
	epoch int
	text  string
	p     impl.Packet
}

// linkEnd is what is told of an end apart from its slots: its Epoch, when it
// came to it, and the numbers that it took of each.
type linkEnd struct {
	slots impl.Slots
	epoch int
	since int
	taken map[int][]int
}

// takes notes a number that is to be taken, by what is told alone.
func (end *linkEnd) takes(c crossing, now int) bool {
	lame := c.epoch > 0 && c.epoch == end.epoch-1 && now < end.since+lameTime
	if c.epoch != end.epoch && !lame {
		return false
	}
	with := append(slices.Clone(end.taken[c.epoch]), c.p.Num)
	if len(takeAllLike(with)) < len(with) {
		return false
	}
	end.taken[c.epoch] = with
	return true
}

// linkLife is two ends and what is on the way between them.
type linkLife struct {
	ends  [2]linkEnd
	way   []crossing
	now   int
	said  int
	came  map[string]int
	count [4]int
}

func newLinkLife(seed string) *linkLife {
	life := &linkLife{came: map[string]int{}}
	one, other := impl.PairSlots(seed)
	for place, s := range []impl.Slots{one, other} {
		life.ends[place] = linkEnd{slots: s, epoch: 1, taken: map[int][]int{}}
	}
	return life
}

func (life *linkLife) say(t *testing.T, from int) {
	end := &life.ends[from]
	life.said++
	text := impl.Decimal(life.said) + " of " + impl.Decimal(from)
	next, p, ok := checkSealDataLike(t, end.slots, 1+from, 2-from, text)
	if ok != (end.slots.Main.Count < maxCount) {
		t.Errorf("at Count %d SealData is %v", end.slots.Main.Count, ok)
	}
	end.slots = next
	if ok {
		life.way = append(life.way, crossing{to: 1 - from, epoch: end.epoch, text: text, p: p})
	}
}

func (life *linkLife) take(t *testing.T, at int) {
	c := life.way[at]
	end := &life.ends[c.to]
	next, text, ok := checkOpenDataLike(t, end.slots, c.p, life.now)
	if want := end.takes(c, life.now); ok != want || ok && text != c.text {
		t.Errorf("at %d %#v opens %#v as %q, %v; want %q, %v", life.now, end.slots, c.p, text, ok, c.text, want)
	}
	end.slots = next
	if ok {
		life.came[text]++
		life.count[0]++
	} else {
		life.count[1]++
	}
}

func (life *linkLife) step(t *testing.T, place int) {
	end := &life.ends[place]
	next, ok := checkStepBothLike(t, end.slots, life.now)
	if !ok {
		t.Errorf("%#v does not step at %d", end.slots, life.now)
	}
	end.slots, end.epoch, end.since = next, end.epoch+1, life.now
	life.count[2]++
}

func (life *linkLife) lose(at int) {
	life.way = slices.Delete(life.way, at, at+1)
}

func (life *linkLife) checkOnce(t *testing.T) {
	for text, times := range life.came {
		if times > 1 {
			t.Errorf("%q came %d times", text, times)
		}
	}
}

func TestLivesOfLinks(t *testing.T) {
	draw := rand.New(rand.NewSource(246))
	opened, shut, steps := 0, 0, 0
	for number := range 120 {
		life := newLinkLife("life " + impl.Decimal(number))
		oneStepsAlone := number%4 == 0
		for range 150 {
			at := 0
			if len(life.way) > 0 {
				at = draw.Intn(len(life.way))
			}
			switch kind := draw.Intn(12); {
			case kind < 4:
				life.say(t, draw.Intn(2))
			case kind < 9 && len(life.way) > 0:
				life.take(t, at)
				if kind < 7 {
					life.lose(at)
				}
			case kind == 9 && len(life.way) > 0:
				life.lose(at)
			case kind == 10 && oneStepsAlone:
				life.step(t, draw.Intn(2))
			case kind == 10 && draw.Intn(2) == 0:
				life.step(t, 0)
				life.step(t, 1)
			case kind == 11:
				life.now += draw.Intn(8)
			}
		}
		life.checkOnce(t)
		opened, shut, steps = opened+life.count[0], shut+life.count[1], steps+life.count[2]
	}
	if opened < 1000 || shut < 1000 || steps < 500 {
		t.Errorf("only %d were opened, %d not, in %d steps", opened, shut, steps)
	}
}

// When nothing is lost, and nobody steps, all comes.
func TestAllComesInOrder(t *testing.T) {
	life := newLinkLife("all")
	for range 30 {
		for range maxCount {
			for from := range life.ends {
				life.say(t, from)
				life.take(t, 0)
				life.lose(0)
			}
		}
		life.step(t, 0)
		life.step(t, 1)
		life.now += 3
	}
	life.checkOnce(t)
	if len(life.came) != life.said || life.said != 2*30*maxCount {
		t.Errorf("%d of %d came", len(life.came), life.said)
	}
}

func drawnTextToSeal(draw *rand.Rand) string {
	return drawnText(draw.Int63(), max(0, near(draw, 0, mostSealed)))
}

// drawnData is mostly for one of both slots, and mostly as it was sealed.
func drawnData(draw *rand.Rand, s impl.Slots) impl.Packet {
	slot := []impl.Slot{s.Main, s.Main, s.Main, s.Lame, s.Lame, s.Lame, slotAt(5, 0, 0)}[draw.Intn(7)]
	num := []int{near(draw, 0, 16), near(draw, mostNum-3, mostNum)}[draw.Intn(8)/7]
	if len(slot.Seen) > 0 && draw.Intn(2) == 0 {
		num = slot.Seen[0] + draw.Intn(12) - 7
	}
	p := dataFor(slot, max(num, 0), drawnTextToSeal(draw))
	switch draw.Intn(20) {
	case 0:
		p.Key = near(draw, 0, lastKey)
	case 1:
		p.Num++
	case 2:
		p.Body = p.Body[draw.Intn(len(p.Body)):]
	case 3:
		p.Op = near(draw, opControl, opData)
	case 4:
		p.Acks = []int{3}
	case 5:
		p.From = near(draw, 1, 99)
	}
	return p
}

func TestDrawnData(t *testing.T) {
	draw := rand.New(rand.NewSource(247))
	sealed, opened, lame := 0, 0, 0
	for range 20000 {
		s := slotsOf(drawnSlot(draw), drawnSlot(draw))
		if draw.Intn(3) == 0 && s.Main.Epoch < 7 && s.Lame.Epoch > 0 && s.Lame.Epoch < 7 {
			s.Main.Epoch += 8
		}
		if _, _, ok := checkSealDataLike(t, s, near(draw, 1, 99), near(draw, 1, 99), drawnTextToSeal(draw)); ok {
			sealed++
		}
		next, _, ok := checkOpenDataLike(t, s, drawnData(draw, s), near(draw, 0, 30))
		if ok {
			opened++
		}
		if ok && !slices.Equal(next.Lame.Seen, s.Lame.Seen) {
			lame++
		}
		checkStepBothLike(t, s, []int{near(draw, 0, 45), near(draw, lastInstall-3, lastInstall)}[draw.Intn(2)])
	}
	if sealed < 3000 || opened < 1000 || lame < 100 {
		t.Errorf("only %d were sealed, %d opened, %d of these by Lame", sealed, opened, lame)
	}
}

// Both Seen may be one list: those of an answer are two even then.
func TestDataOfSlotsWithOneSeen(t *testing.T) {
	room := []int{9, 8, 6, spareSeen, spareSeen}
	were := slices.Clone(room)
	s := slotsOf(slotAt(5, 3, 4), slotAt(4, 3, 25))
	s.Main.Seen, s.Lame.Seen = room[:3], room[:3]
	sealed, _, _ := impl.SealData(s, 1, 2, "text")
	unsealed, _, _ := impl.SealData(s, 0, 2, "text")
	ofMain, _, _ := impl.OpenData(s, dataFor(s.Main, 7, "main"), 0)
	ofLame, _, _ := impl.OpenData(s, dataFor(s.Lame, 7, "lame"), 0)
	shut, _, _ := impl.OpenData(s, dataFor(s.Main, 9, "seen"), 0)
	stepped, _ := impl.StepBoth(s, 5)
	unstepped, _ := impl.StepBoth(s, -1)
	if !slices.Equal(ofMain.Lame.Seen, were[:3]) || !slices.Equal(ofLame.Main.Seen, were[:3]) {
		t.Errorf("what one slot took is noted in the other one: %#v, %#v", ofMain, ofLame)
	}
	for _, got := range []impl.Slots{sealed, unsealed, ofMain, ofLame, shut, stepped, unstepped} {
		checkDisjoint(t, "data with one Seen", append(seenOfSlots(got, false), memoryOf(room, true, "Seen")), false)
		filled(got.Main.Seen, -3)
		filled(got.Lame.Seen, -4)
	}
	if !slices.Equal(room, were) {
		t.Errorf("%#v is written into; it was %#v", room, were)
	}
}

func TestTwoAnswersOfDataShareNothing(t *testing.T) {
	for _, s := range append(rightPairs(), wrongPairs()...) {
		var lists []memory
		for range 2 {
			sealed, p, _ := impl.SealData(s, 1, 2, "text")
			unsealed, _, _ := impl.SealData(s, 1, 100, "text")
			opened, _, _ := impl.OpenData(s, dataFor(impl.Slot{Epoch: s.Main.Epoch & 7, Open: s.Main.Open}, 7, "text"), 0)
			shut, _, _ := impl.OpenData(s, impl.Packet{}, 0)
			stepped, _ := impl.StepBoth(s, 5)
			unstepped, _ := impl.StepBoth(s, -1)
			for _, one := range []impl.Slots{sealed, unsealed, opened, shut, stepped, unstepped} {
				lists = append(lists, seenOfSlots(one, false)...)
			}
			lists = append(lists, memoryOf(p.Acks, false, "Acks"))
		}
		checkDisjoint(t, "data", lists, false)
	}
}

// The texts that come may lie in the slots themselves, or in what was sealed.
func TestDataOfTheSlotsThemselves(t *testing.T) {
	s := fullSlots()
	for _, text := range []string{s.Main.Send, s.Main.Open, s.Lame.Send, lockLike(s.Main.Open, 7, "inner")} {
		lent := lendSlots(s)
		next, p, ok := impl.SealData(lent.s, 1, 2, text)
		want, packet, _ := sealDataLike(s, 1, 2, text)
		if !ok || !sameSlots(next, want) || !samePacket(p, packet) {
			t.Errorf("SealData(%#v, 1, 2, %x) = %#v, %#v, %v; want %#v, %#v", s, text, next, p, ok, want, packet)
		}
		lent.checkAnswer(t, "SealData", next, text)
		checkOpenedOnce(t, s, dataFor(s.Main, 7, text), 0, noted(s, 9, 8, 7, 6), text)
	}
}

func TestRefusalsOfDataLeaveNothingBehind(t *testing.T) {
	s := fullSlots()
	p := dataFor(s.Main, 7, "text")
	for range 3 {
		checkNoSeal(t, s, 0, 1, "text")
		checkNoSeal(t, s, 1, 100, "text")
		checkNoSeal(t, s, 1, 2, strings.Repeat("z", mostSealed+1))
		checkNoSeal(t, counted(s, maxCount), 1, 2, "text")
		checkSealData(t, s, 1, 2, "text", counted(s, 4), packetOf(opData, 5, 1, 2, 4, nil, lockLike(keyNamed("s5"), 4, "text")), true)
		checkNotOpened(t, s, dataFor(s.Main, 8, "text"), 0)
		checkNotOpened(t, s, dataFor(s.Lame, 8, "text"), 25)
		checkOpenedOnce(t, s, p, 0, noted(s, 9, 8, 7, 6), "text")
		checkNoStep(t, s, -1)
		checkStepBothLike(t, s, 0)
	}
}

func TestManySealAndOpenAtOnce(t *testing.T) {
	s := fullSlots()
	wantSealed, wantPacket, _ := sealDataLike(s, 1, 2, "text")
	p := dataFor(s.Lame, 8, "lame")
	wantOpened, _, _ := openDataLike(s, p, 0)
	wantStepped, _ := stepBothLike(s, 5)
	var all sync.WaitGroup
	for range 16 {
		all.Go(func() {
			for range 100 {
				sealed, packet, _ := impl.SealData(s, 1, 2, "text")
				opened, text, _ := impl.OpenData(s, p, 0)
				stepped, _ := impl.StepBoth(s, 5)
				if !sameSlots(sealed, wantSealed) || !samePacket(packet, wantPacket) || !sameSlots(opened, wantOpened) || text != "lame" || !sameSlots(stepped, wantStepped) {
					t.Errorf("at once %#v, %#v, %#v, %q, %#v come", sealed, packet, opened, text, stepped)
					return
				}
			}
		})
	}
	all.Wait()
}
