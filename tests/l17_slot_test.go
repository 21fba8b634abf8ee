package tests

import (
	"math"
	"math/rand"
	"slices"
	"strings"
	"sync"
	"testing"

	"loop.example/g00193/impl"
)

const (
	maxCount    = 12
	lameTime    = 10
	lastInstall = 999999990
	sizeOfAKey  = 32
)

// keyNamed is a key of its own for each name.
func keyNamed(name string) string {
	return digestLike("key " + name)
}

// slotAt has keys by its Epoch, so that two slots can't be taken for each other.
func slotAt(epoch, count, until int, seen ...int) impl.Slot {
	name := impl.Decimal(epoch)
	return impl.Slot{Epoch: epoch, Send: keyNamed("s" + name), Open: keyNamed("o" + name), Count: count, Seen: seen, Until: until}
}

func slotsOf(main, lame impl.Slot) impl.Slots {
	return impl.Slots{Main: main, Lame: lame}
}

// fullSlots has something in every field of both.
func fullSlots() impl.Slots {
	return slotsOf(slotAt(5, 3, 4, 9, 8, 6), slotAt(4, maxCount, 25, 7, 5))
}

func sameSlot(a, b impl.Slot) bool {
	return a.Epoch == b.Epoch && a.Send == b.Send && a.Open == b.Open && a.Count == b.Count && slices.Equal(a.Seen, b.Seen) && a.Until == b.Until
}

func sameSlots(a, b impl.Slots) bool {
	return sameSlot(a.Main, b.Main) && sameSlot(a.Lame, b.Lame)
}

func cloneSlots(s impl.Slots) impl.Slots {
	s.Main.Seen, s.Lame.Seen = slices.Clone(s.Main.Seen), slices.Clone(s.Lame.Seen)
	return s
}

func changedSlot(s impl.Slot, change func(*impl.Slot)) impl.Slot {
	s.Seen = slices.Clone(s.Seen)
	change(&s)
	return s
}

func changedSlots(s impl.Slots, change func(*impl.Slots)) impl.Slots {
	next := cloneSlots(s)
	change(&next)
	return next
}

func slotRightLike(s impl.Slot) bool {
	if sameSlot(s, impl.Slot{}) {
		return true
	}
	for _, row := range [][3]int{{s.Epoch, 1, mostNum}, {len(s.Send), 32, 32}, {len(s.Open), 32, 32}, {s.Count, 0, maxCount}, {s.Until, 0, mostNum}} {
		if row[0] < row[1] || row[0] > row[2] {
			return false
		}
	}
	return seenRightLike(s.Seen)
}

func slotsRightLike(s impl.Slots) bool {
	if !slotRightLike(s.Main) || !slotRightLike(s.Lame) {
		return false
	}
	if s.Lame.Epoch == 0 {
		return true
	}
	return s.Main.Epoch != 0 && s.Main.Epoch > s.Lame.Epoch
}

func installLike(s impl.Slots, send, open string, now int) (impl.Slots, bool) {
	if !slotsRightLike(s) || len(send) != 32 || len(open) != 32 || now < 0 || now > lastInstall || s.Main.Epoch > mostNum-1 {
		return s, false
	}
	lame := impl.Slot{}
	if s.Main.Epoch != 0 {
		lame = changedSlot(s.Main, func(l *impl.Slot) { l.Until = now + lameTime })
	}
	return slotsOf(impl.Slot{Epoch: s.Main.Epoch + 1, Send: send, Open: open}, lame), true
}

func tidyLike(s impl.Slots, now int) impl.Slots {
	if s.Lame.Until > now {
		return s
	}
	return slotsOf(s.Main, impl.Slot{})
}

// lentSlots are slots whose Seen lie in greater rooms and whose keys in longer
// texts, and how these were.
type lentSlots struct {
	s    impl.Slots
	room impl.Slots
	were impl.Slots
}

func lendSlot(s impl.Slot) (impl.Slot, impl.Slot) {
	lent := s
	lent.Send, lent.Open = inLongerText(s.Send), inLongerText(s.Open)
	room := lent
	lent.Seen, room.Seen = inRoom(s.Seen, spareSeen)
	return lent, room
}

func lendSlots(s impl.Slots) lentSlots {
	var lent lentSlots
	lent.s.Main, lent.room.Main = lendSlot(s.Main)
	lent.s.Lame, lent.room.Lame = lendSlot(s.Lame)
	lent.were = cloneSlots(lent.room)
	return lent
}

func (lent lentSlots) checkUntouched(t *testing.T, what string) {
	t.Helper()
	if !sameSlots(lent.room, lent.were) {
		t.Errorf("%s wrote into its argument: %#v; want %#v", what, lent.room, lent.were)
	}
}

func seenOfSlots(s impl.Slots, given bool) []memory {
	return []memory{memoryOf(s.Main.Seen, given, "Main's Seen"), memoryOf(s.Lame.Seen, given, "Lame's Seen")}
}

func keysOfSlots(s impl.Slots) []string {
	return []string{s.Main.Send, s.Main.Open, s.Lame.Send, s.Lame.Open}
}

// checkAnswer looks at what every answer must be, whatever the chapter says,
// and writes into the whole of it.
func (lent lentSlots) checkAnswer(t *testing.T, what string, got impl.Slots, keys ...string) {
	t.Helper()
	checkDisjoint(t, what, append(seenOfSlots(lent.room, true), seenOfSlots(got, false)...), false)
	checkOwnTexts(t, what, append(keysOfSlots(lent.room), keys...), keysOfSlots(got)...)
	if want := impl.SlotsOk(lent.s); want && !impl.SlotsOk(got) {
		t.Errorf("%s: %#v was right; what came of it, %#v, is not", what, lent.s, got)
	}
	filled(got.Main.Seen, -3)
	filled(got.Lame.Seen, -4)
	lent.checkUntouched(t, what)
}

func checkSlot(t *testing.T, s impl.Slot, want bool) {
	t.Helper()
	lent, room := lendSlot(s)
	were := changedSlot(room, func(*impl.Slot) {})
	if got := impl.SlotOk(lent); got != want {
		t.Errorf("SlotOk(%#v) = %#v; want %#v", s, got, want)
	}
	if !sameSlot(room, were) {
		t.Errorf("SlotOk wrote into its argument: %#v; want %#v", room, were)
	}
}

func checkSlots(t *testing.T, s impl.Slots, want bool) {
	t.Helper()
	lent := lendSlots(s)
	if got := impl.SlotsOk(lent.s); got != want {
		t.Errorf("SlotsOk(%#v) = %#v; want %#v", s, got, want)
	}
	lent.checkUntouched(t, "SlotsOk")
}

// checkInstall asks twice: what was written into the first answer must not be
// seen in the second one.
func checkInstall(t *testing.T, s impl.Slots, send, open string, now int, want impl.Slots, right bool) {
	t.Helper()
	lent, lentSend, lentOpen := lendSlots(s), inLongerText(send), inLongerText(open)
	for range 2 {
		got, ok := impl.Install(lent.s, lentSend, lentOpen, now)
		if !sameSlots(got, want) || ok != right {
			t.Errorf("Install(%#v, %.40x, %.40x, %d) = %#v, %#v; want %#v, %#v", s, send, open, now, got, ok, want, right)
		}
		checkOneMore(t, s, got, send, open, now, ok)
		lent.checkAnswer(t, "Install", got, lentSend, lentOpen)
	}
}

// checkOneMore holds promise 17 against what was installed.
func checkOneMore(t *testing.T, s, got impl.Slots, send, open string, now int, ok bool) {
	t.Helper()
	if !ok {
		return
	}
	if got.Main.Epoch != s.Main.Epoch+1 || got.Main.Send != send || got.Main.Open != open {
		t.Errorf("Install(%#v) has the Main %#v", s, got.Main)
	}
	if got.Lame.Epoch != s.Main.Epoch || got.Lame.Send != s.Main.Send || got.Lame.Open != s.Main.Open {
		t.Errorf("Install(%#v) has the Lame %#v", s, got.Lame)
	}
	if s.Main.Epoch > 0 && got.Lame.Until != now+lameTime {
		t.Errorf("Install(%#v) at %d has a Lame until %d", s, now, got.Lame.Until)
	}
	if !impl.SlotsOk(got) || !impl.SlotOk(got.Main) || !impl.SlotOk(got.Lame) {
		t.Errorf("Install(%#v) = %#v, which is not right", s, got)
	}
}

func checkNoInstall(t *testing.T, s impl.Slots, send, open string, now int) {
	t.Helper()
	checkInstall(t, s, send, open, now, s, false)
}

func checkInstallLike(t *testing.T, s impl.Slots, send, open string, now int) (impl.Slots, bool) {
	t.Helper()
	want, right := installLike(s, send, open, now)
	checkInstall(t, s, send, open, now, want, right)
	return want, right
}

func checkTidy(t *testing.T, s impl.Slots, now int, want impl.Slots) {
	t.Helper()
	lent := lendSlots(s)
	for range 2 {
		got := impl.TidySlots(lent.s, now)
		if !sameSlots(got, want) {
			t.Errorf("TidySlots(%#v, %d) = %#v; want %#v", s, now, got, want)
		}
		lent.checkAnswer(t, "TidySlots", got)
	}
}

func checkSpent(t *testing.T, s impl.Slots, want bool) {
	t.Helper()
	lent := lendSlots(s)
	if got := impl.Spent(lent.s); got != want {
		t.Errorf("Spent(%#v) = %#v; want %#v", s, got, want)
	}
	lent.checkUntouched(t, "Spent")
}

func checkNextKeys(t *testing.T, send, open, wantSend, wantOpen string) {
	t.Helper()
	lentSend, lentOpen := inLongerText(send), inLongerText(open)
	gotSend, gotOpen := impl.NextKeys(lentSend, lentOpen)
	if gotSend != wantSend || gotOpen != wantOpen {
		t.Errorf("NextKeys(%.40x, %.40x) = %x, %x; want %x, %x", send, open, gotSend, gotOpen, wantSend, wantOpen)
	}
	checkOwnTexts(t, "NextKeys", []string{lentSend, lentOpen}, gotSend, gotOpen)
}

// rightSlots are all that are something, at the edges of each field.
func rightSlots() []impl.Slot {
	base := slotAt(5, 3, 4, 9, 8, 6)
	list := []impl.Slot{base, slotAt(1, 0, 0), slotAt(mostNum, maxCount, mostNum, downFrom(mostNum, replaySpan)...)}
	for _, epoch := range []int{1, 2, 8, 255, 256, mostNum - 1, mostNum} {
		list = append(list, slotAt(epoch, 3, 4, 9, 8, 6))
	}
	for count := range maxCount + 1 {
		list = append(list, slotAt(5, count, 4, 9, 8, 6))
	}
	for _, until := range []int{0, 1, lameTime, mostNum - 1, mostNum} {
		list = append(list, slotAt(5, 3, until, 9, 8, 6))
	}
	for _, seen := range rightSeen() {
		list = append(list, slotAt(5, 3, 4, seen...))
	}
	for _, key := range []string{strings.Repeat("\x00", sizeOfAKey), strings.Repeat("\xff", sizeOfAKey), strings.Repeat("ä", 16), everyByte()[100 : 100+sizeOfAKey]} {
		list = append(list, changedSlot(base, func(s *impl.Slot) { s.Send = key }))
		list = append(list, changedSlot(base, func(s *impl.Slot) { s.Open = key }))
		list = append(list, changedSlot(base, func(s *impl.Slot) { s.Send, s.Open = key, key }))
	}
	return list
}

func keySizesOutside() []int {
	return []int{0, 1, 16, 30, 31, 33, 34, 63, 64, 65, 256 + 32, 1000}
}

func slotCountsOutside() []int {
	return []int{-1, -2, -12, 13, 14, 100, 255, 256, 256 + 3, 1 << 32, 1<<32 + 12, mostNum, math.MinInt, math.MinInt + 12, math.MaxInt - 1, math.MaxInt}
}

// wrongSlots are each wrong in one field alone.
func wrongSlots() []impl.Slot {
	base := slotAt(5, 3, 4, 9, 8, 6)
	var list []impl.Slot
	add := func(change func(*impl.Slot)) { list = append(list, changedSlot(base, change)) }
	for _, wrong := range numsOutside() {
		add(func(s *impl.Slot) { s.Epoch = wrong })
		add(func(s *impl.Slot) { s.Until = wrong })
	}
	add(func(s *impl.Slot) { s.Epoch = 0 })
	for _, size := range keySizesOutside() {
		add(func(s *impl.Slot) { s.Send = drawnText(231, size) })
		add(func(s *impl.Slot) { s.Open = drawnText(232, size) })
		add(func(s *impl.Slot) { s.Send, s.Open = drawnText(233, size), drawnText(233, size) })
	}
	for _, count := range slotCountsOutside() {
		add(func(s *impl.Slot) { s.Count = count })
	}
	for _, seen := range wrongSeen() {
		add(func(s *impl.Slot) { s.Seen = seen })
	}
	return append(list, nearlyNothing()...)
}

// nearlyNothing have Epoch 0 and one other field that is not empty.
func nearlyNothing() []impl.Slot {
	return []impl.Slot{
		{Send: keyNamed("s")},
		{Send: "\x00"},
		{Open: keyNamed("o")},
		{Open: "\x00"},
		{Count: 1},
		{Count: -1},
		{Count: maxCount},
		{Count: math.MinInt},
		{Seen: []int{1}},
		{Seen: []int{0}},
		{Seen: downFrom(9, replaySpan)},
		{Seen: make([]int, 1000)},
		{Until: 1},
		{Until: -1},
		{Until: mostNum},
		{Until: math.MaxInt},
		{Send: keyNamed("s"), Open: keyNamed("o")},
		{Send: keyNamed("s"), Open: keyNamed("o"), Count: 3, Seen: []int{9, 8, 6}, Until: 4},
	}
}

// wrongPairs are slots of which one or both, or how they stand together, is wrong.
func wrongPairs() []impl.Slots {
	var list []impl.Slots
	for _, wrong := range wrongSlots() {
		list = append(list, slotsOf(wrong, impl.Slot{}), slotsOf(wrong, slotAt(1, 1, 20, 2)), slotsOf(impl.Slot{}, wrong))
		list = append(list, slotsOf(slotAt(mostNum, 1, 0, 2), wrong), slotsOf(wrong, wrong))
	}
	for _, lame := range rightSlots() {
		list = append(list, slotsOf(impl.Slot{}, lame), slotsOf(lame, lame))
	}
	for _, epochs := range [][2]int{{1, 1}, {1, 2}, {1, mostNum}, {5, 5}, {5, 6}, {5, 7}, {mostNum - 1, mostNum}, {mostNum, mostNum}, {8, 256}} {
		list = append(list, slotsOf(slotAt(epochs[0], 1, 0, 3), slotAt(epochs[1], 2, 20, 4)))
	}
	return list
}

func rightPairs() []impl.Slots {
	list := []impl.Slots{{}, fullSlots()}
	list = append(list, slotsOf(impl.Slot{Seen: []int{}}, impl.Slot{Seen: []int{}}))
	for _, s := range rightSlots() {
		list = append(list, slotsOf(s, impl.Slot{}))
		if s.Epoch > 1 {
			list = append(list, slotsOf(s, slotAt(1, 2, 20, 4, 3)))
		}
		if s.Epoch < mostNum {
			list = append(list, slotsOf(slotAt(mostNum, 2, 0, 4, 3), s))
		}
	}
	for _, epochs := range [][2]int{{2, 1}, {5, 4}, {5, 1}, {mostNum, 1}, {mostNum, mostNum - 1}, {256, 8}} {
		list = append(list, slotsOf(slotAt(epochs[0], 1, 0, 3), slotAt(epochs[1], 2, 20, 4)))
	}
	return list
}

func installTimesOutside() []int {
	return []int{-1, -2, -10, -11, -mostNum, lastInstall + 1, lastInstall + 2, mostNum - 1, mostNum, mostNum + 1, 1 << 32, 1<<32 + 5, math.MinInt, math.MinInt + 10, math.MaxInt - 10, math.MaxInt - 9, math.MaxInt}
}

func TestConstantsOfSlots(t *testing.T) {
	if impl.MaxCount != maxCount || impl.LameTime != lameTime {
		t.Errorf("MaxCount is %d, LameTime %d; want 12, 10", impl.MaxCount, impl.LameTime)
	}
}

func TestRightSlots(t *testing.T) {
	checkSlot(t, impl.Slot{}, true)
	checkSlot(t, impl.Slot{Seen: []int{}}, true)
	checkSlot(t, impl.Slot{Seen: make([]int, 0, 10)}, true)
	for _, s := range rightSlots() {
		if !slotRightLike(s) {
			t.Fatalf("%#v is not right", s)
		}
		checkSlot(t, s, true)
	}
}

func TestWrongSlots(t *testing.T) {
	for _, s := range wrongSlots() {
		if slotRightLike(s) {
			t.Fatalf("%#v is right", s)
		}
		checkSlot(t, s, false)
	}
}

func TestKeysOfEverySize(t *testing.T) {
	key := keyNamed("x")
	for size := range 130 {
		text, right := drawnText(234, size), size == sizeOfAKey
		checkSlot(t, impl.Slot{Epoch: 1, Send: text, Open: key}, right)
		checkSlot(t, impl.Slot{Epoch: 1, Send: key, Open: text}, right)
		for _, s := range []impl.Slots{{}, slotsOf(slotAt(1, 2, 0, 3), impl.Slot{}), fullSlots()} {
			_, sendFits := checkInstallLike(t, s, text, key, 7)
			_, openFits := checkInstallLike(t, s, key, text, 7)
			if sendFits != right || openFits != right {
				t.Errorf("keys of %d bytes: %#v, %#v", size, sendFits, openFits)
			}
		}
	}
	for _, size := range []int{256 + 32, 1 << 16, 1<<16 + 32} {
		long := strings.Repeat("l", size)
		checkNoInstall(t, impl.Slots{}, long, key, 0)
		checkNoInstall(t, impl.Slots{}, key, long, 0)
		checkNoInstall(t, impl.Slots{}, long, long, 0)
	}
}

func TestRightPairs(t *testing.T) {
	for _, s := range rightPairs() {
		if !slotsRightLike(s) {
			t.Fatalf("%#v are not right", s)
		}
		checkSlots(t, s, true)
		for _, now := range []int{0, 1, 7, lastInstall - 1, lastInstall} {
			checkInstallLike(t, s, keyNamed("a"), keyNamed("b"), now)
		}
		for _, now := range installTimesOutside() {
			checkNoInstall(t, s, keyNamed("a"), keyNamed("b"), now)
		}
	}
}

func TestWrongPairs(t *testing.T) {
	for _, s := range wrongPairs() {
		if slotsRightLike(s) {
			t.Fatalf("%#v are right", s)
		}
		checkSlots(t, s, false)
		for _, now := range []int{math.MinInt, -1, 0, 7, lastInstall, lastInstall + 1, math.MaxInt} {
			checkNoInstall(t, s, keyNamed("a"), keyNamed("b"), now)
			checkTidy(t, s, now, tidyLike(s, now))
		}
		checkNoInstall(t, s, "", "", 0)
	}
}

// Of slots that are right by themselves the Epochs decide.
func TestEpochsOfBoth(t *testing.T) {
	epochs := []int{0, 1, 2, 3, 4, 5, 255, 256, 257, mostNum - 1, mostNum}
	for _, mainEpoch := range epochs {
		for _, lameEpoch := range epochs {
			s := slotsOf(slotAt(mainEpoch, 1, 0, 3), slotAt(lameEpoch, 2, 20, 4))
			if mainEpoch == 0 {
				s.Main = impl.Slot{}
			}
			if lameEpoch == 0 {
				s.Lame = impl.Slot{}
			}
			checkSlots(t, s, lameEpoch == 0 || lameEpoch < mainEpoch)
		}
	}
}

// Send and Open, and Main and Lame, are told apart by what is written out here.
func TestFixedInstalls(t *testing.T) {
	a, b, c := strings.Repeat("a", 32), strings.Repeat("b", 32), strings.Repeat("c", 32)
	one := impl.Slots{Main: impl.Slot{Epoch: 1, Send: a, Open: b}}
	checkInstall(t, impl.Slots{}, a, b, 0, one, true)
	checkInstall(t, impl.Slots{}, a, b, lastInstall, one, true)
	used := changedSlots(one, func(s *impl.Slots) { s.Main.Count, s.Main.Seen, s.Main.Until = 7, []int{4, 3}, 99 })
	two := impl.Slots{
		Main: impl.Slot{Epoch: 2, Send: b, Open: c},
		Lame: impl.Slot{Epoch: 1, Send: a, Open: b, Count: 7, Seen: []int{4, 3}, Until: 15},
	}
	checkInstall(t, used, b, c, 5, two, true)
	three := impl.Slots{
		Main: impl.Slot{Epoch: 3, Send: c, Open: c},
		Lame: impl.Slot{Epoch: 2, Send: b, Open: c, Until: 16},
	}
	checkInstall(t, two, c, c, 6, three, true)
	// Time need not go on: now is all that counts.
	three.Lame.Until = 10
	checkInstall(t, two, c, c, 0, three, true)
	three.Lame.Until = 1000000000
	checkInstall(t, two, c, c, 999999990, three, true)
	checkNoInstall(t, two, c, c, 999999991)
	checkNoInstall(t, two, c, c, -1)
}

func TestKeysInstalledOneBehindAnother(t *testing.T) {
	send, open := digestLike("a"), digestLike("b")
	var s impl.Slots
	for epoch := 1; epoch <= 60; epoch++ {
		now := epoch * 7
		want := slotsOf(impl.Slot{Epoch: epoch, Send: send, Open: open}, s.Main)
		if epoch > 1 {
			want.Lame.Until = now + lameTime
		}
		checkInstall(t, s, send, open, now, want, true)
		got, ok := impl.Install(s, send, open, now)
		if !ok || !sameSlots(got, want) || !impl.SlotsOk(got) {
			t.Fatalf("Install(%#v) = %#v, %#v; want %#v", s, got, ok, want)
		}
		if impl.Spent(got) {
			t.Errorf("%#v are spent", got)
		}
		s = got
		// Main is used ahead of the next one, as it would be by packets.
		s.Main.Count, s.Main.Seen = epoch%(maxCount+1), downFrom(epoch+replaySpan, 1+epoch%replaySpan)
		checkSlots(t, s, true)
		send, open = impl.NextKeys(send, open)
	}
}

func TestTheLastEpochs(t *testing.T) {
	a, b := keyNamed("a"), keyNamed("b")
	for _, lame := range []impl.Slot{{}, slotAt(1, 2, 20, 3), slotAt(mostNum-3, 2, 20, 3)} {
		last := slotsOf(slotAt(mostNum-2, 3, 0, 4), lame)
		for _, epoch := range []int{mostNum - 1, mostNum} {
			next, right := checkInstallLike(t, last, a, b, 7)
			if !right || next.Main.Epoch != epoch {
				t.Fatalf("%#v came to %#v", last, next)
			}
			last = next
		}
		checkNoInstall(t, last, a, b, 7)
		checkNoInstall(t, impl.TidySlots(last, mostNum), a, b, 7)
	}
	over := slotsOf(slotAt(mostNum+1, 3, 0, 4), impl.Slot{})
	checkSlots(t, over, false)
	checkNoInstall(t, over, a, b, 7)
}

func TestInstallsAtEveryTime(t *testing.T) {
	s := fullSlots()
	for now := range 300 {
		next, right := checkInstallLike(t, s, keyNamed("a"), keyNamed("b"), now)
		if !right || next.Lame.Until != now+10 {
			t.Errorf("at %d %#v came to %#v", now, s, next)
		}
	}
	for now := lastInstall - 20; now <= mostNum+20; now++ {
		if _, right := checkInstallLike(t, s, keyNamed("a"), keyNamed("b"), now); right != (now <= mostNum-10) {
			t.Errorf("at %d Install is %#v", now, right)
		}
	}
}

func TestTidyAroundUntil(t *testing.T) {
	for _, until := range []int{0, 1, 10, 25, 1000, mostNum - 1, mostNum} {
		s := slotsOf(slotAt(5, 3, 4, 9, 8, 6), slotAt(4, maxCount, until, 7, 5))
		gone := slotsOf(s.Main, impl.Slot{})
		for by := 1; by <= 30; by++ {
			checkTidy(t, s, until-by, s)
			checkTidy(t, s, until+by, gone)
		}
		checkTidy(t, s, until, gone)
		for _, now := range []int{math.MinInt, math.MinInt + 1, -mostNum, -1} {
			checkTidy(t, s, now, s)
		}
		for _, now := range []int{mostNum, mostNum + 1, 1 << 40, math.MaxInt} {
			checkTidy(t, s, now, gone)
		}
		checkTidy(t, gone, until, gone)
	}
}

// Main's Until is not looked at, nor is any other field of Lame.
func TestTidyLooksAtLamesUntilAlone(t *testing.T) {
	for _, until := range []int{0, 1, mostNum} {
		for _, now := range []int{math.MinInt, -1, 0, 1, 2, mostNum, math.MaxInt} {
			alone := slotsOf(slotAt(5, 3, until, 9), impl.Slot{})
			checkTidy(t, alone, now, alone)
		}
	}
	for _, now := range []int{math.MinInt, -1, 0, 1, mostNum, math.MaxInt} {
		checkTidy(t, impl.Slots{}, now, impl.Slots{})
	}
	for _, lame := range append(wrongSlots(), rightSlots()...) {
		s := slotsOf(slotAt(5, 3, 4, 9), lame)
		for _, now := range []int{math.MinInt, lame.Until, math.MaxInt} {
			checkTidy(t, s, now, tidyLike(s, now))
		}
	}
	for _, main := range wrongSlots() {
		checkTidy(t, slotsOf(main, slotAt(4, 2, 20, 7)), 19, slotsOf(main, slotAt(4, 2, 20, 7)))
		checkTidy(t, slotsOf(main, slotAt(4, 2, 20, 7)), 20, slotsOf(main, impl.Slot{}))
	}
}

func TestTidyBehindAnInstall(t *testing.T) {
	for _, now := range []int{0, 1, 5, 1000, lastInstall} {
		s, _ := impl.Install(slotsOf(slotAt(1, 2, 0, 3), impl.Slot{}), keyNamed("a"), keyNamed("b"), now)
		for by := range 20 {
			tidy := impl.TidySlots(s, now+by)
			if opens := tidy.Lame.Epoch == 1; opens != (by < lameTime) || tidy.Main.Epoch != 2 {
				t.Errorf("%#v, installed at %d, are %#v at %d", s, now, tidy, now+by)
			}
		}
	}
}

// fixedKeys were worked out outside this program: each pair is the next of the
// one ahead of it.
func fixedKeys(t *testing.T) [][][2]string {
	t.Helper()
	rows := [][][2]string{
		{
			{"ca978112ca1bbdcafac231b39a23dc4da786eff8147c4e72b9807785afee48bb", "3e23e8160039594a33894f6564e1b1348bbd7a0088d42c4acb73eeaed59c009d"},
			{"b9bc81cc73a5545647a5974d77ae992021ea79705bbd673025e2cb8afccbd985", "c68c232cddf195452cdddc3f19189896a33901797fcca63c90eb37d0b5480f1c"},
			{"3c83ad91edbdf355f30a259e58579161bd8d9f2c710e316a91842de93b3ba8b7", "787572dd7adf3109c4e1af63876b40063cecb43634f35155e08d0cd6f9dbbee5"},
			{"246835836684d580d6e4f091a21020e73a619fca88013513603bf0fa7ebf47d5", "a3d6666faa4c0349c2641bb0e24a68ce962e8882da04fba7fb917e31f9408b21"},
		},
		{
			{"", ""},
			{"8254c329a92850f6d539dd376f4816ee2764517da5e0235514af433164480d7a", "8254c329a92850f6d539dd376f4816ee2764517da5e0235514af433164480d7a"},
			{"2ab7f80fa6e85cb1db034c9a3e062df24a4f3343056cd21b9a0cc7733b170660", "2ab7f80fa6e85cb1db034c9a3e062df24a4f3343056cd21b9a0cc7733b170660"},
		},
		{
			{strings.Repeat("00", 32), strings.Repeat("ff", 32)},
			{"0b9a5d294719d06b37b72e5e6bd2b019833f75c3a3032087af4a2083126b5096", "9449aab1c3228151f3a398567d1a5420d06b52d26b9da9429aa11af1061b3d3a"},
			{"0707ce155c6e24898a44cceda929772084c1177337ee6776fe4850a69df091dc", "6dc3e2d6b5e192e7639e8ca12d7c30e58b6143a095f1e537744cf45da7e8f617"},
		},
		{
			{strings.Repeat("61", 31), strings.Repeat("62", 1000)},
			{"5c2e823d557439674caddfac30967ba05f754f8612df06d8b844941ef89900be", "ad388eced4f0518fedb36b0f89bea56a3671f750dee09a003936930c146881d6"},
			{"355ffc3a24574bc08fecca076cf69c4e04fa166a742a9f0ddafabdc49e7996da", "35f9a672b235c4869e4945a9bbcd56cf228c144ab6920ced30069ea0fc495fca"},
		},
	}
	for _, row := range rows {
		for place := range row {
			row[place] = [2]string{unhexed(t, row[place][0]), unhexed(t, row[place][1])}
		}
	}
	return rows
}

func TestFixedNextKeys(t *testing.T) {
	for _, row := range fixedKeys(t) {
		for place := range row[1:] {
			checkNextKeys(t, row[place][0], row[place][1], row[place+1][0], row[place+1][1])
			checkNextKeys(t, row[place][1], row[place][0], row[place+1][1], row[place+1][0])
		}
	}
}

// Of two ends, whose keys are turned to each other's, the next ones are, too.
func TestNextKeysOfBothEnds(t *testing.T) {
	send, open := digestLike("a"), digestLike("b")
	otherSend, otherOpen := open, send
	told := map[string]int{send: 0, open: 0}
	for range 200 {
		send, open = impl.NextKeys(send, open)
		otherSend, otherOpen = impl.NextKeys(otherSend, otherOpen)
		if send != otherOpen || open != otherSend || len(send) != sizeOfAKey || len(open) != sizeOfAKey {
			t.Fatalf("one has %x, %x, the other one %x, %x", send, open, otherSend, otherOpen)
		}
		told[send]++
		told[open]++
	}
	if len(told) != 402 {
		t.Errorf("only %d keys are unlike", len(told))
	}
}

func TestNextKeysOfEverySize(t *testing.T) {
	for size := range 200 {
		send, open := drawnText(235, size), drawnText(236, 199-size)
		checkNextKeys(t, send, open, digestLike(send+"k"), digestLike(open+"k"))
	}
	long := drawnText(237, 100000)
	checkNextKeys(t, long, "", digestLike(long+"k"), digestLike("k"))
	checkNextKeys(t, long, long, digestLike(long+"k"), digestLike(long+"k"))
}

func TestSpent(t *testing.T) {
	checkSpent(t, impl.Slots{}, true)
	checkSpent(t, slotsOf(impl.Slot{Seen: []int{}}, impl.Slot{}), true)
	for count := range maxCount + 1 {
		for _, epoch := range []int{1, 2, mostNum} {
			main := slotAt(epoch, count, 4, 9, 8, 6)
			for _, lame := range []impl.Slot{{}, slotAt(1, 0, 20, 3), slotAt(1, maxCount, 20, 3)} {
				checkSpent(t, slotsOf(main, lame), count == 12)
			}
		}
	}
}

// The chapter bars no slots here: what is not right is taken as its words have
// it, Epoch 0 for nothing, and no other Count than MaxCount for MaxCount.
func TestSpentOfWrongSlots(t *testing.T) {
	for _, s := range wrongPairs() {
		checkSpent(t, s, s.Main.Epoch == 0 || s.Main.Count == 12)
	}
	for _, main := range nearlyNothing() {
		checkSpent(t, slotsOf(main, impl.Slot{}), true)
		checkSpent(t, slotsOf(main, slotAt(4, 2, 20, 7)), true)
	}
	for _, count := range slotCountsOutside() {
		checkSpent(t, slotsOf(slotAt(5, count, 0, 9), slotAt(4, maxCount, 20, 7)), false)
	}
	for _, epoch := range numsOutside() {
		checkSpent(t, slotsOf(slotAt(epoch, 3, 0, 9), impl.Slot{}), false)
		checkSpent(t, slotsOf(slotAt(epoch, maxCount, 0, 9), impl.Slot{}), true)
	}
}

func TestFreshKeysAreNotSpent(t *testing.T) {
	spent := slotsOf(slotAt(5, maxCount, 0, 9), impl.Slot{})
	checkSpent(t, spent, true)
	next, _ := impl.Install(spent, keyNamed("a"), keyNamed("b"), 7)
	checkSpent(t, next, false)
	if next.Lame.Count != maxCount || next.Main.Count != 0 || len(next.Main.Seen) > 0 || next.Main.Until != 0 {
		t.Errorf("Install(%#v) = %#v", spent, next)
	}
}

// slotLife is what was installed and when, told apart from the slots.
type slotLife struct {
	keys []string
	at   []int
}

// opening are the keys that open at now, the newest first.
func (life *slotLife) opening(now int) []string {
	last := len(life.keys) - 1
	if last < 0 {
		return nil
	}
	open := []string{life.keys[last]}
	if last > 0 && now < life.at[last]+lameTime {
		open = append(open, life.keys[last-1])
	}
	return open
}

func openingOf(s impl.Slots) []string {
	var open []string
	for _, slot := range []impl.Slot{s.Main, s.Lame} {
		if slot.Epoch > 0 {
			open = append(open, slot.Open)
		}
	}
	return open
}

func TestALifeOfSlots(t *testing.T) {
	draw := rand.New(rand.NewSource(238))
	for life := range 200 {
		var s impl.Slots
		var story slotLife
		now := draw.Intn(50)
		for step := range 60 {
			if draw.Intn(2) == 0 {
				open := keyNamed(impl.Decimal(step))
				var ok bool
				if s, ok = impl.Install(s, keyNamed("s"), open, now); !ok {
					t.Fatalf("life %d: %#v takes no keys at %d", life, s, now)
				}
				story.keys, story.at = append(story.keys, open), append(story.at, now)
			}
			now += draw.Intn(8)
			s = impl.TidySlots(s, now)
			want := story.opening(now)
			if got := openingOf(s); !slices.Equal(got, want) || len(got) > 2 || s.Main.Epoch != len(story.keys) || !impl.SlotsOk(s) {
				t.Fatalf("life %d: %x open at %d; want %x; the slots are %#v", life, got, now, want, s)
			}
			if s.Main.Epoch > 0 && s.Main.Count < maxCount {
				s.Main.Count++
			}
		}
	}
}

func drawnSlot(draw *rand.Rand) impl.Slot {
	if draw.Intn(6) == 0 {
		return impl.Slot{}
	}
	s := slotAt([]int{near(draw, 1, 6), near(draw, mostNum-2, mostNum)}[draw.Intn(2)], near(draw, 0, maxCount), near(draw, 0, 40))
	n := 1 + draw.Intn(15)
	for range draw.Intn(replaySpan) {
		if n > 0 && (len(s.Seen) == 0 || s.Seen[0]-n < replaySpan) || draw.Intn(40) == 0 {
			s.Seen = append(s.Seen, n)
		}
		n -= 1 + draw.Intn(2)
	}
	switch draw.Intn(40) {
	case 0:
		return nearlyNothing()[draw.Intn(18)]
	case 1:
		s.Send = drawnText(draw.Int63(), draw.Intn(40))
	case 2:
		s.Open = drawnText(draw.Int63(), draw.Intn(40))
	case 3:
		s.Until = append(numsOutside(), mostNum)[draw.Intn(14)]
	}
	return s
}

func TestDrawnSlots(t *testing.T) {
	draw := rand.New(rand.NewSource(239))
	right, installed := 0, 0
	for range 10000 {
		s := slotsOf(drawnSlot(draw), drawnSlot(draw))
		checkSlot(t, s.Main, slotRightLike(s.Main))
		checkSlot(t, s.Lame, slotRightLike(s.Lame))
		checkSlots(t, s, slotsRightLike(s))
		checkSpent(t, s, s.Main.Epoch == 0 || s.Main.Count == maxCount)
		now := near(draw, 0, 45)
		checkTidy(t, s, now, tidyLike(s, now))
		size := []int{sizeOfAKey, sizeOfAKey, sizeOfAKey, sizeOfAKey, 31, 33}[draw.Intn(6)]
		_, ok := checkInstallLike(t, s, drawnText(draw.Int63(), size), keyNamed("b"), []int{now, near(draw, lastInstall-3, lastInstall)}[draw.Intn(2)])
		if slotsRightLike(s) {
			right++
		}
		if ok {
			installed++
		}
	}
	if right < 2000 || installed < 1000 {
		t.Errorf("only %d of the drawn slots are right, and %d took keys", right, installed)
	}
}

// The keys that come may be those that are there, in their own memory.
func TestKeysInstalledFromTheSlotsThemselves(t *testing.T) {
	lent := lendSlots(fullSlots())
	for _, keys := range [][2]string{{lent.s.Main.Send, lent.s.Main.Open}, {lent.s.Main.Open, lent.s.Main.Open}, {lent.s.Lame.Send, lent.s.Main.Send}} {
		want, _ := installLike(lent.s, keys[0], keys[1], 5)
		got, ok := impl.Install(lent.s, keys[0], keys[1], 5)
		if !ok || !sameSlots(got, want) {
			t.Errorf("Install(%#v, %x) = %#v, %#v; want %#v", lent.s, keys, got, ok, want)
		}
		lent.checkAnswer(t, "Install", got, keys[0], keys[1])
	}
}

// Both Seen may be one list: those of an answer are two even then.
func TestSlotsWithOneSeen(t *testing.T) {
	room := []int{9, 8, 6, spareSeen, spareSeen}
	were := slices.Clone(room)
	s := slotsOf(slotAt(5, 3, 4, room[:3]...), slotAt(4, 3, 25, room[:3]...))
	s.Main.Seen, s.Lame.Seen = room[:3], room[:3]
	installed, _ := impl.Install(s, keyNamed("a"), keyNamed("b"), 5)
	refused, _ := impl.Install(s, "", "", 5)
	for _, got := range []impl.Slots{installed, refused, impl.TidySlots(s, 5)} {
		lists := append(seenOfSlots(got, false), memoryOf(room, true, "Seen"))
		checkDisjoint(t, "slots with one Seen", lists, false)
		filled(got.Main.Seen, -3)
		filled(got.Lame.Seen, -4)
	}
	if !slices.Equal(room, were) {
		t.Errorf("%#v is written into; it was %#v", room, were)
	}
}

func TestTwoAnswersOfSlotsShareNothing(t *testing.T) {
	for _, s := range append(rightPairs(), wrongPairs()...) {
		var lists []memory
		for range 2 {
			installed, _ := impl.Install(s, keyNamed("a"), keyNamed("b"), 5)
			refused, _ := impl.Install(s, "", "", 5)
			for _, one := range []impl.Slots{installed, refused, impl.TidySlots(s, 5), impl.TidySlots(s, mostNum)} {
				lists = append(lists, seenOfSlots(one, false)...)
			}
		}
		checkDisjoint(t, "slots", lists, false)
	}
}

func TestAGreatSeenIsNotRight(t *testing.T) {
	great := slotAt(5, 3, 4, downFrom(mostNum, 100000)...)
	for _, s := range []impl.Slots{slotsOf(great, impl.Slot{}), slotsOf(slotAt(6, 1, 0), great), slotsOf(impl.Slot{Seen: great.Seen}, impl.Slot{})} {
		installed, ok := impl.Install(s, keyNamed("a"), keyNamed("b"), 5)
		if impl.SlotsOk(s) || ok || !sameSlots(installed, s) || !sameSlots(impl.TidySlots(s, -1), s) {
			t.Error("slots with a great Seen are right, or changed")
		}
	}
}

func TestRefusalsOfSlotsLeaveNothingBehind(t *testing.T) {
	s := fullSlots()
	a, b := keyNamed("a"), keyNamed("b")
	for range 3 {
		checkNoInstall(t, s, a[:31], b, 5)
		checkNoInstall(t, s, a, b+"b", 5)
		checkNoInstall(t, s, a, b, -1)
		checkNoInstall(t, slotsOf(impl.Slot{}, s.Lame), a, b, 5)
		checkInstall(t, impl.Slots{}, a, b, 5, slotsOf(impl.Slot{Epoch: 1, Send: a, Open: b}, impl.Slot{}), true)
		checkInstall(t, s, a, b, 5, slotsOf(impl.Slot{Epoch: 6, Send: a, Open: b}, slotAt(5, 3, 15, 9, 8, 6)), true)
		checkTidy(t, s, 24, s)
		checkTidy(t, s, 25, slotsOf(s.Main, impl.Slot{}))
	}
}

func TestManyInstallAtOnce(t *testing.T) {
	s, a, b := fullSlots(), keyNamed("a"), keyNamed("b")
	want, _ := installLike(s, a, b, 5)
	var all sync.WaitGroup
	for range 16 {
		all.Go(func() {
			for range 200 {
				got, ok := impl.Install(s, a, b, 5)
				tidy := impl.TidySlots(s, 24)
				if !ok || !sameSlots(got, want) || !sameSlots(tidy, s) || impl.Spent(s) {
					t.Errorf("Install(%#v) = %#v, %#v; want %#v; tidy it is %#v", s, got, ok, want, tidy)
					return
				}
			}
		})
	}
	all.Wait()
}
