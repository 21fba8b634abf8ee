package tests

import (
	"math"
	"math/rand"
	"runtime"
	"slices"
	"strings"
	"sync"
	"testing"
	"unsafe"

	"loop.example/g00193/impl"
)

const (
	chanWindow = 4
	maxTries   = 8
	mostQueue  = 30
	mostOwed   = 4
	mostNext   = 1000
	lastTaken  = 990
	mostSendAt = 999999000
	spareText  = "spare"
)

var (
	sparePending = impl.Pending{Num: 77, Body: spareText, Due: 77, Tries: 7}
	spareEarly   = impl.Early{Num: 77, Body: spareText}
)

func sentAt(num int, body string, due, tries int) impl.Pending {
	return impl.Pending{Num: num, Body: body, Due: due, Tries: tries}
}

// sentOf are ones that are not due for long.
func sentOf(nums ...int) []impl.Pending {
	var list []impl.Pending
	for _, num := range nums {
		list = append(list, sentAt(num, "s"+impl.Decimal(num), mostNum, 1))
	}
	return list
}

func earlyOf(nums ...int) []impl.Early {
	var list []impl.Early
	for _, num := range nums {
		list = append(list, impl.Early{Num: num, Body: "e" + impl.Decimal(num)})
	}
	return list
}

func textsInRow(size int) []string {
	var list []string
	for place := range size {
		list = append(list, "t"+impl.Decimal(place+1))
	}
	return list
}

// chanGot is one of which so many came out, and that has nothing else.
func chanGot(got int) impl.Chan {
	return impl.Chan{Me: 1, Peer: 2, Got: got, Out: textsInRow(got)}
}

func changed(c impl.Chan, change func(*impl.Chan)) impl.Chan {
	next := cloneChan(c)
	change(&next)
	return next
}

func cloneChan(c impl.Chan) impl.Chan {
	c.Queue, c.Sent, c.Early = slices.Clone(c.Queue), slices.Clone(c.Sent), slices.Clone(c.Early)
	c.Owed, c.Out = slices.Clone(c.Owed), slices.Clone(c.Out)
	return c
}

func sameChan(a, b impl.Chan) bool {
	return a.Me == b.Me && a.Peer == b.Peer && a.Next == b.Next && slices.Equal(a.Queue, b.Queue) && slices.Equal(a.Sent, b.Sent) &&
		a.Got == b.Got && slices.Equal(a.Early, b.Early) && slices.Equal(a.Owed, b.Owed) && slices.Equal(a.Out, b.Out)
}

// control is a packet to chanGot, ackOnly one without a text.
func control(num int, acks []int, body string) impl.Packet {
	return packetOf(opControl, 0, 2, 1, num, acks, body)
}

func ackOnly(acks ...int) impl.Packet {
	return packetOf(opAck, 0, 2, 1, 0, acks, "")
}

func textsOf(c impl.Chan) []string {
	texts := slices.Concat(c.Queue, c.Out)
	for _, one := range c.Sent {
		texts = append(texts, one.Body)
	}
	for _, one := range c.Early {
		texts = append(texts, one.Body)
	}
	return texts
}

// areWithinLike holds when each of the numbers is above the one ahead of it,
// and all are within both ends.
func areWithinLike(nums []int, least, most int) bool {
	whole := slices.Concat([]int{least - 1}, nums, []int{most + 1})
	for place := 1; place < len(whole); place++ {
		if whole[place] <= whole[place-1] {
			return false
		}
	}
	return true
}

func chanRightLike(c impl.Chan) bool {
	rows := [][3]int{{c.Me, 1, 99}, {c.Peer, 1, 99}, {c.Next, 0, mostNext}, {c.Got, 0, mostNext}, {len(c.Out), c.Got, c.Got}}
	rows = append(rows, [3]int{len(c.Queue), 0, mostQueue}, [3]int{len(c.Sent), 0, chanWindow}, [3]int{len(c.Owed), 0, mostOwed})
	var sent, early []int
	for _, one := range c.Sent {
		sent = append(sent, one.Num)
		rows = append(rows, [3]int{one.Due, 0, mostNum}, [3]int{one.Tries, 1, maxTries})
	}
	for _, one := range c.Early {
		early = append(early, one.Num)
	}
	for _, num := range c.Owed {
		rows = append(rows, [3]int{num, 1, c.Got + chanWindow})
	}
	for _, row := range rows {
		if row[0] < row[1] || row[0] > row[2] {
			return false
		}
	}
	tooLong := slices.ContainsFunc(textsOf(c), func(text string) bool { return len(text) > maxBody })
	return !tooLong && areWithinLike(sent, 1, c.Next) && areWithinLike(early, c.Got+2, c.Got+chanWindow)
}

func pushLike(c impl.Chan, s string) (impl.Chan, bool) {
	if !chanRightLike(c) || len(s) > maxBody || len(c.Queue) > mostQueue-1 || c.Next+len(c.Queue) > mostNext-1 {
		return c, false
	}
	return changed(c, func(next *impl.Chan) { next.Queue = slices.Concat(c.Queue, []string{s}) }), true
}

// sendLike counts first how many come from Queue: by the room in the window,
// and by the oldest one Sent.
func sendLike(c impl.Chan, now int) (impl.Chan, []impl.Packet) {
	if !chanRightLike(c) || now < 0 || now > mostSendAt {
		return c, nil
	}
	more := min(len(c.Queue), chanWindow-len(c.Sent))
	if len(c.Sent) > 0 {
		more = max(0, min(more, c.Sent[0].Num+chanWindow-1-c.Next))
	}
	next := cloneChan(c)
	for place, text := range c.Queue[:more] {
		next.Sent = append(next.Sent, sentAt(c.Next+place+1, text, now, 0))
	}
	next.Queue, next.Next, next.Owed = next.Queue[more:], c.Next+more, nil
	var packets []impl.Packet
	for place, one := range next.Sent {
		if one.Due > now || one.Tries >= maxTries {
			continue
		}
		waits := []int{2, 4, 8, 16, 32, 64, 128, 256}
		next.Sent[place] = sentAt(one.Num, one.Body, now+waits[one.Tries], one.Tries+1)
		packets = append(packets, packetOf(opControl, 0, c.Me, c.Peer, one.Num, nil, one.Body))
	}
	if len(packets) == 0 && len(c.Owed) > 0 {
		packets = append(packets, packetOf(opAck, 0, c.Me, c.Peer, 0, nil, ""))
	}
	if len(packets) > 0 {
		packets[0].Acks = slices.Clone(c.Owed)
	}
	return next, packets
}

// takeLike has all that waits in a map, what comes first being kept.
func takeLike(c impl.Chan, p impl.Packet) (impl.Chan, bool) {
	if !chanRightLike(c) || !packetRightLike(p) || p.From != c.Peer || p.To != c.Me || p.Op == opData || c.Got > lastTaken {
		return c, false
	}
	if p.Op == opControl && (p.Num == 0 || p.Num > c.Got+chanWindow) {
		return c, false
	}
	next := cloneChan(c)
	next.Sent = slices.DeleteFunc(next.Sent, func(one impl.Pending) bool { return slices.Contains(p.Acks, one.Num) })
	if p.Op == opAck {
		return next, true
	}
	if !slices.Contains(c.Owed, p.Num) && len(c.Owed) < mostOwed {
		next.Owed = append(next.Owed, p.Num)
	}
	waiting := map[int]string{p.Num: p.Body}
	for _, one := range c.Early {
		waiting[one.Num] = one.Body
	}
	for body, there := waiting[next.Got+1]; there; body, there = waiting[next.Got+1] {
		next.Out = append(next.Out, body)
		next.Got++
	}
	next.Early = nil
	for num := next.Got + 1; num <= c.Got+chanWindow; num++ {
		if body, there := waiting[num]; there {
			next.Early = append(next.Early, impl.Early{Num: num, Body: body})
		}
	}
	return next, true
}

// memory is from where to where something lies, and whose it is; held, so that
// nothing else comes to lie there as long as it is asked about.
type memory struct {
	held  unsafe.Pointer
	begin uintptr
	end   uintptr
	given bool
	what  string
}

func memoryOf[T any](list []T, given bool, what string) memory {
	var one T
	held := unsafe.Pointer(unsafe.SliceData(list))
	return memory{held, uintptr(held), uintptr(held) + uintptr(cap(list))*unsafe.Sizeof(one), given, what}
}

func memoryOfText(text string, given bool) memory {
	held := unsafe.Pointer(unsafe.StringData(text))
	return memory{held, uintptr(held), uintptr(held) + uintptr(len(text)), given, "a text"}
}

func listsOf(c impl.Chan, given bool) []memory {
	return []memory{
		memoryOf(c.Queue, given, "Queue"),
		memoryOf(c.Sent, given, "Sent"),
		memoryOf(c.Early, given, "Early"),
		memoryOf(c.Owed, given, "Owed"),
		memoryOf(c.Out, given, "Out"),
	}
}

// checkDisjoint bars what is answered from what is given, and, unless
// textsAlone, any two that are answered from each other.
func checkDisjoint(t *testing.T, what string, all []memory, textsAlone bool) {
	t.Helper()
	all = slices.DeleteFunc(all, func(m memory) bool { return m.begin == m.end })
	slices.SortFunc(all, func(a, b memory) int {
		if a.begin < b.begin {
			return -1
		}
		if a.begin > b.begin {
			return 1
		}
		return 0
	})
	var given, answered memory
	for _, m := range all {
		if m.begin < given.end && !m.given {
			t.Errorf("%s answers memory of its argument: %s of %s", what, m.what, given.what)
		}
		if m.begin < answered.end && m.given {
			t.Errorf("%s answers memory of its argument: %s of %s", what, answered.what, m.what)
		}
		if m.begin < answered.end && !m.given && !textsAlone {
			t.Errorf("%s answers two lists that share memory: %s and %s", what, m.what, answered.what)
		}
		if m.given && m.end > given.end {
			given = m
		}
		if !m.given && m.end > answered.end {
			answered = m
		}
	}
}

// lentChan is a channel whose lists lie in greater rooms, and how these were.
type lentChan struct {
	c    impl.Chan
	room impl.Chan
	were impl.Chan
}

func lendChan(c impl.Chan) lentChan {
	lent := lentChan{c: c, room: c}
	lent.c.Queue, lent.room.Queue = inRoom(c.Queue, spareText)
	lent.c.Sent, lent.room.Sent = inRoom(c.Sent, sparePending)
	lent.c.Early, lent.room.Early = inRoom(c.Early, spareEarly)
	lent.c.Owed, lent.room.Owed = inRoom(c.Owed, spareAck)
	lent.c.Out, lent.room.Out = inRoom(c.Out, spareText)
	lent.were = cloneChan(lent.room)
	return lent
}

func (lent lentChan) checkUntouched(t *testing.T, what string) {
	t.Helper()
	if !sameChan(lent.room, lent.were) {
		t.Errorf("%s wrote into its argument: %v; want %v", what, lent.room, lent.were)
	}
}

// checkAnswer looks at what every answer must be, whatever the chapter says.
func (lent lentChan) checkAnswer(t *testing.T, what string, got impl.Chan, packets []impl.Packet, given impl.Packet) {
	t.Helper()
	lent.checkUntouched(t, what)
	lists := slices.Concat(listsOf(lent.room, true), listsOf(got, false))
	lists = append(lists, memoryOf(given.Acks, true, "Acks"), memoryOf(packets, false, "the packets"))
	texts := []memory{memoryOfText(given.Body, true)}
	for _, p := range packets {
		lists = append(lists, memoryOf(p.Acks, false, "Acks"))
		texts = append(texts, memoryOfText(p.Body, false))
	}
	for _, text := range textsOf(lent.room) {
		texts = append(texts, memoryOfText(text, true))
	}
	for _, text := range textsOf(got) {
		texts = append(texts, memoryOfText(text, false))
	}
	checkDisjoint(t, what, lists, false)
	checkDisjoint(t, what, texts, true)
	checkStaysRight(t, what, lent.c, got, packets)
}

// hasNumsLeft holds for all that come from ChanNew by Push, Send and Take.
func hasNumsLeft(c impl.Chan) bool {
	return c.Next+len(c.Queue) <= mostNext
}

// checkStaysRight holds what promise 13 says against an answer. A right channel
// that was made with more in Queue than there are Nums left may be sent past
// the last Num, and is wrong in that alone then.
func checkStaysRight(t *testing.T, what string, c, got impl.Chan, packets []impl.Packet) {
	t.Helper()
	want := impl.ChanOk(c)
	if want && hasNumsLeft(c) && !hasNumsLeft(got) {
		t.Errorf("%s: %v had Nums left for its Queue; what came of it, %v, has not", what, c, got)
	}
	if want && !hasNumsLeft(c) {
		want = got.Next <= mostNext
	}
	if impl.ChanOk(got) != want {
		t.Errorf("%s: %v was right: %v; what came of it, %v, is right: %v", what, c, impl.ChanOk(c), got, impl.ChanOk(got))
	}
	for _, p := range packets {
		if !impl.PacketOk(p) {
			t.Errorf("%s of %v: %v goes out and is not right", what, c, p)
		}
	}
	if len(got.Out) < len(c.Out) || !slices.Equal(got.Out[:len(c.Out)], c.Out) {
		t.Errorf("%s: Out was %q, and is %q", what, c.Out, got.Out)
	}
}

func checkChan(t *testing.T, c impl.Chan, want bool) {
	t.Helper()
	lent := lendChan(c)
	if got := impl.ChanOk(lent.c); got != want {
		t.Errorf("ChanOk(%v) = %v; want %v", c, got, want)
	}
	lent.checkUntouched(t, "ChanOk")
}

func checkPush(t *testing.T, c impl.Chan, s string, want impl.Chan, right bool) {
	t.Helper()
	lent := lendChan(c)
	got, ok := impl.Push(lent.c, s)
	if !sameChan(got, want) || ok != right {
		t.Errorf("Push(%v, %q) = %v, %v; want %v, %v", c, s, got, ok, want, right)
	}
	lent.checkAnswer(t, "Push", got, nil, impl.Packet{Body: s})
}

func checkNoPush(t *testing.T, c impl.Chan, s string) {
	t.Helper()
	checkPush(t, c, s, c, false)
}

func checkPushLike(t *testing.T, c impl.Chan, s string) {
	t.Helper()
	want, right := pushLike(c, s)
	checkPush(t, c, s, want, right)
}

func checkSend(t *testing.T, c impl.Chan, now int, want impl.Chan, packets ...impl.Packet) {
	t.Helper()
	lent := lendChan(c)
	got, told := impl.Send(lent.c, now)
	if !sameChan(got, want) || !slices.EqualFunc(told, packets, samePacket) {
		t.Errorf("Send(%v, %d) = %v, %v; want %v, %v", c, now, got, told, want, packets)
	}
	lent.checkAnswer(t, "Send", got, told, impl.Packet{})
}

func checkNoSend(t *testing.T, c impl.Chan, now int) {
	t.Helper()
	checkSend(t, c, now, c)
}

func checkSendLike(t *testing.T, c impl.Chan, now int) {
	t.Helper()
	want, packets := sendLike(c, now)
	checkSend(t, c, now, want, packets...)
}

func checkTake(t *testing.T, c impl.Chan, p impl.Packet, want impl.Chan, right bool) {
	t.Helper()
	lent := lendChan(c)
	acks, room := inRoom(p.Acks, spareAck)
	before := slices.Clone(room)
	lentPacket := p
	lentPacket.Acks = acks
	got, ok := impl.Take(lent.c, lentPacket)
	if !sameChan(got, want) || ok != right {
		t.Errorf("Take(%v, %v) = %v, %v; want %v, %v", c, p, got, ok, want, right)
	}
	if !slices.Equal(room, before) {
		t.Errorf("Take wrote into its argument: %v; want %v", room, before)
	}
	lentPacket.Acks = room
	lent.checkAnswer(t, "Take", got, nil, lentPacket)
}

func checkNoTake(t *testing.T, c impl.Chan, p impl.Packet) {
	t.Helper()
	checkTake(t, c, p, c, false)
}

func checkTakeLike(t *testing.T, c impl.Chan, p impl.Packet) {
	t.Helper()
	want, right := takeLike(c, p)
	checkTake(t, c, p, want, right)
}

func longest() string {
	return strings.Repeat("l", maxBody)
}

// chansOfNote are right, and what the chapter names is in them.
func chansOfNote() []impl.Chan {
	list := []impl.Chan{
		{Me: 1, Peer: 1},
		{Me: 1, Peer: 99},
		{Me: 99, Peer: 1},
		{Me: 99, Peer: 99},
		{Me: 1, Peer: 2, Queue: []string{}, Sent: []impl.Pending{}, Early: []impl.Early{}, Owed: []int{}, Out: []string{}},
		{Me: 1, Peer: 2, Queue: textsInRow(mostQueue)},
		{Me: 1, Peer: 2, Queue: textsInRow(mostQueue - 1)},
		{Me: 1, Peer: 2, Queue: []string{"", longest(), "\x00", "äö", everyByte()[136:]}},
		{Me: 1, Peer: 2, Next: mostNext},
		{Me: 1, Peer: 2, Next: mostNext - 1},
		{Me: 1, Peer: 2, Next: mostNext - 1, Queue: textsInRow(1)},
		{Me: 1, Peer: 2, Next: mostNext - 2, Queue: textsInRow(1)},
		{Me: 1, Peer: 2, Next: mostNext, Queue: textsInRow(3)},
		{Me: 1, Peer: 2, Next: mostNext - 2, Queue: textsInRow(mostQueue)},
		{Me: 1, Peer: 2, Next: mostNext - mostQueue, Queue: textsInRow(mostQueue - 1)},
		{Me: 1, Peer: 2, Next: 4, Sent: sentOf(1, 2, 3, 4), Queue: textsInRow(2)},
		{Me: 1, Peer: 2, Next: 4, Sent: sentOf(2, 3, 4), Queue: textsInRow(2)},
		{Me: 1, Peer: 2, Next: 4, Sent: sentOf(1, 4), Queue: textsInRow(2)},
		{Me: 1, Peer: 2, Next: 4, Sent: sentOf(2), Queue: textsInRow(2)},
		{Me: 1, Peer: 2, Next: 1000, Sent: sentOf(1, 500, 1000), Queue: textsInRow(2)},
		{Me: 1, Peer: 2, Next: 9, Sent: []impl.Pending{sentAt(6, "", 0, 1), sentAt(7, longest(), mostNum, maxTries), sentAt(8, "a", 5, maxTries-1), sentAt(9, "b", 6, maxTries)}},
		{Me: 1, Peer: 2, Next: 7, Queue: textsInRow(3), Sent: []impl.Pending{sentAt(5, "a", 5, 1), sentAt(7, "b", 6, 2)}, Owed: []int{1}},
		{Me: 1, Peer: 2, Early: earlyOf(2, 3, 4)},
		{Me: 1, Peer: 2, Early: earlyOf(2)},
		{Me: 1, Peer: 2, Early: earlyOf(4), Owed: []int{4}},
		{Me: 1, Peer: 2, Early: []impl.Early{{Num: 2, Body: ""}, {Num: 4, Body: longest()}}, Owed: []int{4, 2}},
		{Me: 1, Peer: 2, Owed: []int{4, 3, 2, 1}},
		{Me: 1, Peer: 2, Owed: []int{1, 1, 1, 1}},
		{Me: 1, Peer: 2, Got: 3, Out: []string{"", longest(), "c"}, Early: earlyOf(5, 7), Owed: []int{7, 1, 5}},
		{Me: 1, Peer: 2, Got: 3, Out: textsInRow(3), Early: earlyOf(6), Owed: []int{1, 2, 3, 7}, Next: 2, Sent: sentOf(1, 2), Queue: textsInRow(4)},
	}
	for _, got := range []int{1, 5, lastTaken - 1, lastTaken, lastTaken + 1, mostNext - 1, mostNext} {
		c := chanGot(got)
		c.Early, c.Owed = earlyOf(got+2, got+3, got+4), []int{got + 4, 1, got}
		list = append(list, chanGot(got), c)
	}
	return list
}

// wrongChans are wrong in just one thing each.
func wrongChans() []impl.Chan {
	all := impl.Chan{Me: 1, Peer: 2, Next: 9, Queue: textsInRow(3), Sent: sentOf(6, 8), Got: 3, Early: earlyOf(5, 7), Owed: []int{5, 7}, Out: textsInRow(3)}
	list := []impl.Chan{{}}
	add := func(change func(*impl.Chan)) { list = append(list, changed(all, change)) }
	for _, who := range tosOutside() {
		add(func(c *impl.Chan) { c.Me = who })
		add(func(c *impl.Chan) { c.Peer = who })
	}
	for _, n := range countsOutside() {
		add(func(c *impl.Chan) { c.Next = n })
		add(func(c *impl.Chan) { c.Got = n })
		list = append(list, impl.Chan{Me: 1, Peer: 2, Next: n}, impl.Chan{Me: 1, Peer: 2, Next: n, Queue: textsInRow(1)}, impl.Chan{Me: 1, Peer: 2, Got: n})
	}
	for _, next := range []int{0, 5, 6, 7} {
		add(func(c *impl.Chan) { c.Next = next })
	}
	for _, size := range []int{31, 32, 100, 1000} {
		add(func(c *impl.Chan) { c.Queue = textsInRow(size) })
	}
	for _, size := range []int{maxBody + 1, maxBody + 2, 256, 1000} {
		long := strings.Repeat("l", size)
		for place := range 3 {
			add(func(c *impl.Chan) { c.Queue[place] = long })
			add(func(c *impl.Chan) { c.Out[place] = long })
			add(func(c *impl.Chan) { c.Sent[place%2].Body = long })
			add(func(c *impl.Chan) { c.Early[place%2].Body = long })
		}
	}
	for _, size := range []int{0, 1, 2, 4, 5, 1000, 1001} {
		add(func(c *impl.Chan) { c.Out = textsInRow(size) })
	}
	list = append(list, wrongSent(all)...)
	list = append(list, wrongEarly(all)...)
	list = append(list, wrongOwed(all)...)
	over := changed(chanGot(mostNext), func(c *impl.Chan) { c.Got, c.Out = mostNext+1, textsInRow(mostNext+1) })
	return append(list, over)
}

func wrongSent(all impl.Chan) []impl.Chan {
	var list []impl.Chan
	for _, nums := range [][]int{{8, 6}, {6, 6}, {6, 8, 7}, {6, 7, 7}, {9, 1}, {0, 8}, {-1, 8}, {0}, {10}, {8, 10}, {6, 7, 8, 10}, {5, 6, 7, 8, 9}, {1, 2, 3, 4, 5, 6}, {math.MinInt, 8}, {math.MinInt}, {8, math.MaxInt}, {math.MaxInt, math.MinInt}} {
		list = append(list, changed(all, func(c *impl.Chan) { c.Sent = sentOf(nums...) }))
	}
	for place := range 2 {
		for _, due := range numsOutside() {
			list = append(list, changed(all, func(c *impl.Chan) { c.Sent[place].Due = due }))
		}
		for _, tries := range []int{0, -1, 9, 10, 256, 1<<32 + 1, math.MinInt, math.MaxInt} {
			list = append(list, changed(all, func(c *impl.Chan) { c.Sent[place].Tries = tries }))
		}
	}
	return list
}

// wrongEarly are of Got 3: 5 to 7 are early.
func wrongEarly(all impl.Chan) []impl.Chan {
	var list []impl.Chan
	for _, nums := range [][]int{{4}, {8}, {3}, {0}, {-5}, {4, 5}, {4, 5, 6, 7}, {7, 8}, {5, 6, 7, 8}, {7, 5}, {5, 5}, {6, 6, 7}, {5, 7, 6}, {math.MinInt, 5}, {math.MinInt}, {7, math.MaxInt}, {math.MaxInt}, {math.MaxInt, math.MinInt}} {
		list = append(list, changed(all, func(c *impl.Chan) { c.Early = earlyOf(nums...) }))
	}
	return list
}

func wrongOwed(all impl.Chan) []impl.Chan {
	var list []impl.Chan
	for _, owed := range [][]int{{0}, {8}, {-1}, {1, 0}, {0, 1}, {7, 8}, {1, 2, 3, 8}, {1, 2, 3, 4, 5}, {1, 1, 1, 1, 1}, {math.MinInt}, {math.MaxInt}, {1, math.MaxInt}, {math.MinInt, 7}} {
		list = append(list, changed(all, func(c *impl.Chan) { c.Owed = owed }))
	}
	return list
}

func countsOutside() []int {
	return []int{-1, -2, -1000, 1001, 1002, mostNum, 1<<32 + 3, math.MinInt, math.MinInt + 1, math.MaxInt - 4, math.MaxInt - 3, math.MaxInt - 1, math.MaxInt}
}

func sendTimesOutside() []int {
	return []int{-1, -2, -1000, mostSendAt + 1, mostSendAt + 2, mostNum, mostNum + 1, 1 << 32, math.MinInt, math.MinInt + 1, math.MaxInt - 256, math.MaxInt - 1, math.MaxInt}
}

func TestConstantsOfChans(t *testing.T) {
	if impl.ChanWindow != chanWindow || impl.MaxTries != maxTries {
		t.Errorf("ChanWindow is %d, MaxTries %d; want 4, 8", impl.ChanWindow, impl.MaxTries)
	}
}

func TestNewChans(t *testing.T) {
	ends := append(tosOutside(), 1, 2, 50, 98, 99)
	for _, me := range ends {
		for _, peer := range ends {
			want, right := impl.Chan{}, isWhoLike(me) && isWhoLike(peer)
			if right {
				want = impl.Chan{Me: me, Peer: peer}
			}
			got, ok := impl.ChanNew(me, peer)
			if !sameChan(got, want) || ok != right || impl.ChanOk(got) != right {
				t.Errorf("ChanNew(%d, %d) = %v, %v; want %v, %v", me, peer, got, ok, want, right)
			}
		}
	}
	for me := -1; me <= 101; me++ {
		for peer := -1; peer <= 101; peer++ {
			if _, ok := impl.ChanNew(me, peer); ok != (me > 0 && me < 100 && peer > 0 && peer < 100) {
				t.Errorf("ChanNew(%d, %d) is %v", me, peer, ok)
			}
		}
	}
}

func TestChansOfNoteAreRight(t *testing.T) {
	for _, c := range chansOfNote() {
		if !chanRightLike(c) {
			t.Fatalf("%v is not right", c)
		}
		checkChan(t, c, true)
		for _, s := range []string{"", "x", longest(), longest() + "l"} {
			checkPushLike(t, c, s)
		}
		for _, now := range []int{0, 4, 5, 6, mostSendAt} {
			checkSendLike(t, c, now)
		}
		for num := max(0, c.Got-2); num <= c.Got+chanWindow+1; num++ {
			checkTakeLike(t, c, packetOf(opControl, 0, c.Peer, c.Me, num, []int{1, 4, 7, 1000}, "x"))
		}
		checkTakeLike(t, c, packetOf(opAck, 0, c.Peer, c.Me, 0, []int{2, 3, 6, 500}, ""))
	}
}

func TestChansThatAreNotRight(t *testing.T) {
	for _, c := range wrongChans() {
		if chanRightLike(c) {
			t.Fatalf("%v is right", c)
		}
		checkChan(t, c, false)
		checkNoPush(t, c, "")
		checkNoPush(t, c, "x")
		for _, now := range []int{math.MinInt, -1, 0, 9, mostSendAt, mostNum, math.MaxInt} {
			checkNoSend(t, c, now)
		}
		for _, num := range []int{0, 1, 2, 4, 5, 7, 8} {
			checkNoTake(t, c, control(num, []int{6}, "x"))
			checkNoTake(t, c, packetOf(opControl, 0, c.Peer, c.Me, num, []int{6}, "x"))
		}
		checkNoTake(t, c, ackOnly(6, 8))
		checkNoTake(t, c, packetOf(opAck, 0, c.Peer, c.Me, 0, []int{6, 8}, ""))
	}
}

func TestAGreatChanIsNotRight(t *testing.T) {
	for _, c := range []impl.Chan{
		{Me: 1, Peer: 2, Queue: textsInRow(20000)},
		{Me: 1, Peer: 2, Out: textsInRow(20000), Got: 20000},
		{Me: 1, Peer: 2, Next: 1000, Sent: slices.Repeat(sentOf(1, 2), 10000)},
		{Me: 1, Peer: 2, Early: slices.Repeat(earlyOf(2, 3), 10000)},
		{Me: 1, Peer: 2, Owed: slices.Repeat([]int{1, 2}, 10000)},
	} {
		if impl.ChanOk(c) {
			t.Errorf("a channel of lists of %d, %d, %d, %d, %d is right", len(c.Queue), len(c.Sent), len(c.Early), len(c.Owed), len(c.Out))
		}
		pushed, ok := impl.Push(c, "x")
		sent, packets := impl.Send(c, 0)
		took, taken := impl.Take(c, control(1, nil, "x"))
		if ok || taken || len(packets) > 0 || !sameChan(pushed, c) || !sameChan(sent, c) || !sameChan(took, c) {
			t.Error("a great channel is changed")
		}
	}
}

func TestATextFromEndToEnd(t *testing.T) {
	a, b := impl.Chan{Me: 1, Peer: 2}, impl.Chan{Me: 2, Peer: 1}
	pushed := impl.Chan{Me: 1, Peer: 2, Queue: []string{"x"}}
	checkPush(t, a, "x", pushed, true)
	sent := impl.Chan{Me: 1, Peer: 2, Next: 1, Sent: []impl.Pending{sentAt(1, "x", 7, 1)}}
	text := packetOf(opControl, 0, 1, 2, 1, nil, "x")
	checkSend(t, pushed, 5, sent, text)
	took := impl.Chan{Me: 2, Peer: 1, Got: 1, Owed: []int{1}, Out: []string{"x"}}
	checkTake(t, b, text, took, true)
	answered := impl.Chan{Me: 2, Peer: 1, Got: 1, Out: []string{"x"}}
	ack := packetOf(opAck, 0, 2, 1, 0, []int{1}, "")
	checkSend(t, took, 5, answered, ack)
	checkTake(t, sent, ack, impl.Chan{Me: 1, Peer: 2, Next: 1}, true)
	checkTake(t, took, text, took, true)
	checkTake(t, answered, text, took, true)
	checkNoSend(t, answered, 5)
	checkNoSend(t, sent, 6)
}

func TestTextsBothWays(t *testing.T) {
	a := impl.Chan{Me: 3, Peer: 9, Queue: []string{"a1", "a2"}}
	b := impl.Chan{Me: 9, Peer: 3, Queue: []string{"b1"}}
	a, fromA := impl.Send(a, 0)
	for _, p := range fromA {
		b, _ = impl.Take(b, p)
	}
	wantB := impl.Chan{Me: 9, Peer: 3, Queue: []string{"b1"}, Got: 2, Owed: []int{1, 2}, Out: []string{"a1", "a2"}}
	if !sameChan(b, wantB) {
		t.Fatalf("the second end is %v; want %v", b, wantB)
	}
	next := impl.Chan{Me: 9, Peer: 3, Next: 1, Sent: []impl.Pending{sentAt(1, "b1", 3, 1)}, Got: 2, Out: []string{"a1", "a2"}}
	back := packetOf(opControl, 0, 9, 3, 1, []int{1, 2}, "b1")
	checkSend(t, b, 1, next, back)
	checkTake(t, a, back, impl.Chan{Me: 3, Peer: 9, Next: 2, Got: 1, Owed: []int{1}, Out: []string{"b1"}}, true)
}

func TestAQueueOfThirty(t *testing.T) {
	for size := range mostQueue + 3 {
		c := impl.Chan{Me: 1, Peer: 2, Queue: textsInRow(size)}
		checkChan(t, c, size <= mostQueue)
		if size < mostQueue {
			checkPush(t, c, "more", impl.Chan{Me: 1, Peer: 2, Queue: append(textsInRow(size), "more")}, true)
		} else {
			checkNoPush(t, c, "more")
			checkNoPush(t, c, "")
		}
	}
}

func TestTextsOfEverySizeArePushed(t *testing.T) {
	c := impl.Chan{Me: 1, Peer: 2, Queue: []string{"ahead"}}
	for size := range maxBody + 1 {
		s := drawnText(int64(171+size), size)
		checkPush(t, c, s, impl.Chan{Me: 1, Peer: 2, Queue: []string{"ahead", s}}, true)
		checkChan(t, impl.Chan{Me: 1, Peer: 2, Queue: []string{s}}, true)
	}
	for _, size := range []int{maxBody + 1, maxBody + 2, 256, 376, 20000} {
		checkNoPush(t, c, drawnText(172, size))
		checkChan(t, impl.Chan{Me: 1, Peer: 2, Queue: []string{drawnText(172, size)}}, false)
	}
}

func TestNextAndQueueTogether(t *testing.T) {
	for next := mostNext - 35; next <= mostNext; next++ {
		for size := range mostQueue + 1 {
			c := impl.Chan{Me: 1, Peer: 2, Next: next, Queue: textsInRow(size)}
			checkChan(t, c, true)
			if size < mostQueue && next+size <= 999 {
				checkPush(t, c, "x", impl.Chan{Me: 1, Peer: 2, Next: next, Queue: append(textsInRow(size), "x")}, true)
			} else {
				checkNoPush(t, c, "x")
			}
		}
	}
	checkPush(t, impl.Chan{Me: 1, Peer: 2, Next: 999}, "x", impl.Chan{Me: 1, Peer: 2, Next: 999, Queue: []string{"x"}}, true)
	checkNoPush(t, impl.Chan{Me: 1, Peer: 2, Next: 1000}, "x")
	checkNoPush(t, impl.Chan{Me: 1, Peer: 2, Next: 999, Queue: []string{"y"}}, "x")
}

func TestSendToTheLastNext(t *testing.T) {
	c := impl.Chan{Me: 1, Peer: 2, Next: 999, Queue: []string{"a"}}
	checkSend(t, c, 0, impl.Chan{Me: 1, Peer: 2, Next: 1000, Sent: []impl.Pending{sentAt(1000, "a", 2, 1)}}, packetOf(opControl, 0, 1, 2, 1000, nil, "a"))
	c = impl.Chan{Me: 1, Peer: 2, Next: 996, Queue: textsInRow(4)}
	last, packets := sendLike(c, 3)
	if last.Next != mostNext || len(last.Sent) != chanWindow || len(packets) != chanWindow || !chanRightLike(last) {
		t.Fatalf("the last four are sent as %v, %v", last, packets)
	}
	checkSend(t, c, 3, last, packets...)
	checkNoSend(t, last, 4)
	checkNoPush(t, last, "x")
	checkNoSend(t, impl.Chan{Me: 1, Peer: 2, Next: 1000}, 0)
}

// A right channel that was made, not pushed, may have more in Queue than Nums
// are left: Send names no Next at which it ends.
func TestSendPastTheLastNext(t *testing.T) {
	c := impl.Chan{Me: 1, Peer: 2, Next: 1000, Queue: []string{"a"}}
	past := impl.Chan{Me: 1, Peer: 2, Next: 1001, Sent: []impl.Pending{sentAt(1001, "a", 2, 1)}}
	checkSend(t, c, 0, past, packetOf(opControl, 0, 1, 2, 1001, nil, "a"))
	c = impl.Chan{Me: 1, Peer: 2, Next: 999, Queue: []string{"a", "b"}}
	both := impl.Chan{Me: 1, Peer: 2, Next: 1001, Sent: []impl.Pending{sentAt(1000, "a", 2, 1), sentAt(1001, "b", 2, 1)}}
	checkSend(t, c, 0, both, packetOf(opControl, 0, 1, 2, 1000, nil, "a"), packetOf(opControl, 0, 1, 2, 1001, nil, "b"))
	c = impl.Chan{Me: 1, Peer: 2, Next: 998, Queue: []string{"a", "b", "c", "d", "e"}, Owed: []int{3}}
	four := impl.Chan{Me: 1, Peer: 2, Next: 1002, Queue: []string{"e"}}
	var packets []impl.Packet
	for place, text := range c.Queue[:4] {
		four.Sent = append(four.Sent, sentAt(999+place, text, 7, 1))
		packets = append(packets, packetOf(opControl, 0, 1, 2, 999+place, nil, text))
	}
	packets[0].Acks = []int{3}
	checkSend(t, c, 5, four, packets...)
	for _, over := range []impl.Chan{past, both, four} {
		checkChan(t, over, false)
		checkNoPush(t, over, "x")
		checkNoSend(t, over, 300)
		checkNoTake(t, over, control(1, []int{1001}, "x"))
		checkNoTake(t, over, ackOnly(1000, 1001))
	}
}

// The window and the oldest one Sent bind at the last Nums as they do at others.
func TestTheWindowBindsAtTheLastNext(t *testing.T) {
	for next := mostNext - 6; next <= mostNext; next++ {
		for size := range mostQueue + 1 {
			checkSendLike(t, impl.Chan{Me: 1, Peer: 2, Next: next, Queue: textsInRow(size)}, 3)
		}
		for first := next - 5; first <= next; first++ {
			c := impl.Chan{Me: 1, Peer: 2, Next: next, Sent: sentOf(first), Queue: textsInRow(6), Owed: []int{1}}
			checkSendLike(t, c, 3)
			if first < next {
				checkSendLike(t, changed(c, func(c *impl.Chan) { c.Sent = sentOf(first, next) }), 3)
			}
		}
	}
	bound := impl.Chan{Me: 1, Peer: 2, Next: 1000, Sent: sentOf(997), Queue: []string{"x"}}
	checkNoSend(t, bound, 0)
	full := impl.Chan{Me: 1, Peer: 2, Next: 1000, Sent: sentOf(997, 998, 999, 1000), Queue: []string{"x"}}
	checkNoSend(t, full, 0)
	free := impl.Chan{Me: 1, Peer: 2, Next: 1000, Sent: sentOf(998), Queue: []string{"x", "y"}}
	want := impl.Chan{Me: 1, Peer: 2, Next: 1001, Sent: append(sentOf(998), sentAt(1001, "x", 2, 1)), Queue: []string{"y"}}
	checkSend(t, free, 0, want, packetOf(opControl, 0, 1, 2, 1001, nil, "x"))
}

func TestSendFillsTheWindow(t *testing.T) {
	for size := range 8 {
		c := impl.Chan{Me: 1, Peer: 2, Queue: textsInRow(size)}
		count := min(size, chanWindow)
		want := impl.Chan{Me: 1, Peer: 2, Next: count, Queue: textsInRow(size)[count:]}
		var packets []impl.Packet
		for place := range count {
			body := "t" + impl.Decimal(place+1)
			want.Sent = append(want.Sent, sentAt(place+1, body, 12, 1))
			packets = append(packets, packetOf(opControl, 0, 1, 2, place+1, nil, body))
		}
		checkSend(t, c, 10, want, packets...)
		checkNoSend(t, want, 11)
	}
}

func TestTheFirstOneSentBindsTheNext(t *testing.T) {
	for next := 1; next <= 12; next++ {
		for first := max(1, next-6); first <= next; first++ {
			c := impl.Chan{Me: 1, Peer: 2, Next: next, Sent: sentOf(first), Queue: textsInRow(5)}
			more := max(0, first+chanWindow-1-next)
			want := impl.Chan{Me: 1, Peer: 2, Next: next + more, Sent: sentOf(first), Queue: textsInRow(5)[more:]}
			var packets []impl.Packet
			for place := range more {
				body := "t" + impl.Decimal(place+1)
				want.Sent = append(want.Sent, sentAt(next+place+1, body, 2, 1))
				packets = append(packets, packetOf(opControl, 0, 1, 2, next+place+1, nil, body))
			}
			checkSend(t, c, 0, want, packets...)
		}
	}
	at := impl.Chan{Me: 1, Peer: 2, Next: 9, Sent: sentOf(6), Queue: []string{"x"}}
	checkNoSend(t, at, 0)
	above := impl.Chan{Me: 1, Peer: 2, Next: 9, Sent: sentOf(7), Queue: []string{"x"}}
	checkSend(t, above, 0, impl.Chan{Me: 1, Peer: 2, Next: 10, Sent: append(sentOf(7), sentAt(10, "x", 2, 1))}, packetOf(opControl, 0, 1, 2, 10, nil, "x"))
}

func TestFourSentAreAWindow(t *testing.T) {
	for _, nums := range [][]int{{6, 7, 8, 9}, {7, 8, 9}, {8, 9}, {9}, {7, 9}, {1, 2, 3, 4}, {6}, {6, 9}} {
		c := impl.Chan{Me: 1, Peer: 2, Next: 9, Sent: sentOf(nums...), Queue: textsInRow(6)}
		checkSendLike(t, c, 0)
		got, packets := impl.Send(c, 0)
		if len(got.Sent) > chanWindow || len(packets) != len(got.Sent)-len(nums) {
			t.Errorf("Send(%v, 0) = %v, %v", c, got, packets)
		}
	}
}

func TestDueIsNowOrLater(t *testing.T) {
	for _, now := range []int{0, 1, 5, 1000, mostSendAt - 1, mostSendAt} {
		for _, due := range []int{0, now - 1, now, now + 1, now + 2, mostNum} {
			if due < 0 {
				continue
			}
			c := impl.Chan{Me: 1, Peer: 2, Next: 3, Sent: []impl.Pending{sentAt(3, "x", due, 2)}}
			if due > now {
				checkNoSend(t, c, now)
			} else {
				checkSend(t, c, now, impl.Chan{Me: 1, Peer: 2, Next: 3, Sent: []impl.Pending{sentAt(3, "x", now+8, 3)}}, packetOf(opControl, 0, 1, 2, 3, nil, "x"))
			}
		}
	}
}

func TestTriesComeToAnEnd(t *testing.T) {
	waits := []int{2, 4, 8, 16, 32, 64, 128, 256}
	c := impl.Chan{Me: 1, Peer: 2, Queue: []string{"x"}}
	now := 100
	for tries, wait := range waits {
		want := impl.Chan{Me: 1, Peer: 2, Next: 1, Sent: []impl.Pending{sentAt(1, "x", now+wait, tries+1)}}
		checkSend(t, c, now, want, packetOf(opControl, 0, 1, 2, 1, nil, "x"))
		c = want
		checkNoSend(t, c, now)
		checkNoSend(t, c, now+wait-1)
		now += wait
	}
	for _, late := range []int{now, now + 1, mostSendAt} {
		checkNoSend(t, c, late)
	}
	for tries := 1; tries <= maxTries; tries++ {
		checkSendLike(t, impl.Chan{Me: 1, Peer: 2, Next: 1, Sent: []impl.Pending{sentAt(1, "x", 0, tries)}, Owed: []int{2}}, mostSendAt)
	}
}

func TestSendsAtTheEndsOfTime(t *testing.T) {
	c := impl.Chan{Me: 1, Peer: 2, Next: 1, Queue: []string{"y"}, Sent: []impl.Pending{sentAt(1, "x", 0, 7)}, Owed: []int{1}}
	for _, now := range []int{0, mostSendAt} {
		want := impl.Chan{Me: 1, Peer: 2, Next: 2, Sent: []impl.Pending{sentAt(1, "x", now+256, 8), sentAt(2, "y", now+2, 1)}}
		checkSend(t, c, now, want, packetOf(opControl, 0, 1, 2, 1, []int{1}, "x"), packetOf(opControl, 0, 1, 2, 2, nil, "y"))
	}
	for _, now := range sendTimesOutside() {
		for _, one := range append(chansOfNote(), c) {
			checkNoSend(t, one, now)
		}
	}
}

func TestOwedGoOutWithTheFirstAlone(t *testing.T) {
	due := []impl.Pending{sentAt(1, "a", 9, 1), sentAt(2, "b", 4, 1), sentAt(3, "c", 5, 8), sentAt(4, "d", 3, 2)}
	then := []impl.Pending{sentAt(1, "a", 9, 1), sentAt(2, "b", 9, 2), sentAt(3, "c", 5, 8), sentAt(4, "d", 13, 3)}
	for _, owed := range [][]int{{1}, {4, 2}, {1, 2, 3, 4}, {3, 3}, nil, {}} {
		c := impl.Chan{Me: 1, Peer: 2, Next: 4, Sent: due, Owed: owed}
		want := impl.Chan{Me: 1, Peer: 2, Next: 4, Sent: then}
		checkSend(t, c, 5, want, packetOf(opControl, 0, 1, 2, 2, owed, "b"), packetOf(opControl, 0, 1, 2, 4, nil, "d"))
	}
	fresh := impl.Chan{Me: 1, Peer: 2, Queue: []string{"a", "b"}, Owed: []int{4, 1}}
	checkSend(t, fresh, 0, impl.Chan{Me: 1, Peer: 2, Next: 2, Sent: []impl.Pending{sentAt(1, "a", 2, 1), sentAt(2, "b", 2, 1)}},
		packetOf(opControl, 0, 1, 2, 1, []int{4, 1}, "a"), packetOf(opControl, 0, 1, 2, 2, nil, "b"))
}

func TestOwedGoOutAloneWhenNothingElseDoes(t *testing.T) {
	for _, sent := range [][]impl.Pending{nil, {sentAt(1, "a", 6, 1)}, {sentAt(1, "a", 5, 8), sentAt(2, "b", 6, 7)}} {
		for _, owed := range [][]int{{1}, {4, 2}, {1, 2, 3, 4}, {2, 2}} {
			c := impl.Chan{Me: 7, Peer: 8, Next: 2, Sent: sent, Owed: owed}
			want := impl.Chan{Me: 7, Peer: 8, Next: 2, Sent: sent}
			checkSend(t, c, 5, want, packetOf(opAck, 0, 7, 8, 0, owed, ""))
			checkNoSend(t, want, 5)
		}
		checkNoSend(t, impl.Chan{Me: 7, Peer: 8, Next: 2, Sent: sent}, 5)
	}
	blocked := impl.Chan{Me: 7, Peer: 8, Next: 4, Sent: sentOf(1), Queue: []string{"x"}, Owed: []int{3}}
	checkSend(t, blocked, 5, changed(blocked, func(c *impl.Chan) { c.Owed = nil }), packetOf(opAck, 0, 7, 8, 0, []int{3}, ""))
}

func TestTakesOfEachNum(t *testing.T) {
	for _, got := range []int{0, 1, 4, 5, 100, lastTaken} {
		c := chanGot(got)
		for _, num := range []int{got + 2, got + 3, got + 4} {
			want := changed(c, func(c *impl.Chan) { c.Owed, c.Early = []int{num}, []impl.Early{{Num: num, Body: "x"}} })
			checkTake(t, c, control(num, nil, "x"), want, true)
		}
		next := changed(c, func(c *impl.Chan) { c.Owed, c.Got, c.Out = []int{got + 1}, got+1, append(c.Out, "x") })
		checkTake(t, c, control(got+1, nil, "x"), next, true)
		for num := max(1, got-6); num <= got; num++ {
			checkTake(t, c, control(num, nil, "x"), changed(c, func(c *impl.Chan) { c.Owed = []int{num} }), true)
		}
		for _, num := range []int{0, got + 5, got + 6, got + 1000, mostNum} {
			checkNoTake(t, c, control(num, nil, "x"))
			checkNoTake(t, changed(c, func(c *impl.Chan) { c.Next, c.Sent = 2, sentOf(1, 2) }), control(num, []int{1}, "x"))
		}
		for _, num := range numsOutside() {
			checkNoTake(t, c, control(num, nil, "x"))
		}
	}
}

func TestOwedHasRoomForFour(t *testing.T) {
	c := chanGot(3)
	for _, row := range []struct{ owed, want []int }{
		{nil, []int{5}},
		{[]int{1}, []int{1, 5}},
		{[]int{7, 1, 3}, []int{7, 1, 3, 5}},
		{[]int{1, 1, 1}, []int{1, 1, 1, 5}},
		{[]int{7, 1, 3, 2}, []int{7, 1, 3, 2}},
		{[]int{5}, []int{5}},
		{[]int{1, 5, 3}, []int{1, 5, 3}},
		{[]int{1, 2, 3, 5}, []int{1, 2, 3, 5}},
		{[]int{5, 5}, []int{5, 5}},
	} {
		c.Owed = row.owed
		want := changed(c, func(c *impl.Chan) { c.Owed, c.Early = row.want, []impl.Early{{Num: 5, Body: "x"}} })
		checkTake(t, c, control(5, nil, "x"), want, true)
		checkTakeLike(t, c, control(2, nil, "x"))
		checkTakeLike(t, c, control(4, nil, "x"))
	}
}

func TestEarlyIsFilledFromBehind(t *testing.T) {
	c := impl.Chan{Me: 1, Peer: 2}
	steps := []impl.Chan{
		{Me: 1, Peer: 2, Early: []impl.Early{{Num: 4, Body: "d"}}, Owed: []int{4}},
		{Me: 1, Peer: 2, Early: []impl.Early{{Num: 3, Body: "c"}, {Num: 4, Body: "d"}}, Owed: []int{4, 3}},
		{Me: 1, Peer: 2, Early: []impl.Early{{Num: 2, Body: "b"}, {Num: 3, Body: "c"}, {Num: 4, Body: "d"}}, Owed: []int{4, 3, 2}},
		{Me: 1, Peer: 2, Got: 4, Owed: []int{4, 3, 2, 1}, Out: []string{"a", "b", "c", "d"}},
	}
	for place, want := range steps {
		num := chanWindow - place
		checkTake(t, c, control(num, nil, string("abcd"[num-1])), want, true)
		c = want
	}
	gap := impl.Chan{Me: 1, Peer: 2, Early: earlyOf(2, 4), Owed: []int{4, 2}}
	checkTake(t, gap, control(1, nil, "x"), impl.Chan{Me: 1, Peer: 2, Got: 2, Early: earlyOf(4), Owed: []int{4, 2, 1}, Out: []string{"x", "e2"}}, true)
	behind := impl.Chan{Me: 1, Peer: 2, Early: earlyOf(3, 4), Owed: []int{4, 3}}
	checkTake(t, behind, control(1, nil, "x"), impl.Chan{Me: 1, Peer: 2, Got: 1, Early: earlyOf(3, 4), Owed: []int{4, 3, 1}, Out: []string{"x"}}, true)
}

// What came first of a Num stays: one that comes again tells nothing new.
func TestWhatIsEarlyStaysAsItCame(t *testing.T) {
	for _, nums := range [][]int{{2}, {3}, {4}, {2, 3}, {2, 4}, {3, 4}, {2, 3, 4}} {
		c := impl.Chan{Me: 1, Peer: 2, Early: earlyOf(nums...), Owed: nums}
		for _, num := range nums {
			checkTake(t, c, control(num, nil, "other"), c, true)
			unowed := changed(c, func(c *impl.Chan) { c.Owed = nil })
			checkTake(t, unowed, control(num, nil, "other"), changed(c, func(c *impl.Chan) { c.Owed = []int{num} }), true)
		}
	}
	out := chanGot(4)
	for num := 1; num <= 4; num++ {
		checkTake(t, out, control(num, nil, "other"), changed(out, func(c *impl.Chan) { c.Owed = []int{num} }), true)
	}
}

// eachOrder hands on each order of the numbers from 1 to size.
func eachOrder(size int, begin []int, hear func([]int)) {
	if len(begin) == size {
		hear(begin)
		return
	}
	for num := 1; num <= size; num++ {
		if !slices.Contains(begin, num) {
			eachOrder(size, append(slices.Clone(begin), num), hear)
		}
	}
}

func TestTextsComeOutInOrderWhateverTheirPacketsDo(t *testing.T) {
	eachOrder(chanWindow, nil, func(order []int) {
		c := impl.Chan{Me: 1, Peer: 2}
		for place, num := range order {
			for _, again := range order[:place+1] {
				checkTakeLike(t, c, control(again, nil, "t"+impl.Decimal(again)))
				c, _ = impl.Take(c, control(again, nil, "t"+impl.Decimal(again)))
			}
			if !slices.Equal(c.Out, textsInRow(c.Got)) {
				t.Errorf("in the order %v, with %d, %q came out", order, num, c.Out)
			}
		}
		if want := (impl.Chan{Me: 1, Peer: 2, Got: 4, Owed: order, Out: textsInRow(4)}); !sameChan(c, want) {
			t.Errorf("in the order %v it is %v; want %v", order, c, want)
		}
	})
}

func TestWhatIsAcknowledgedIsGone(t *testing.T) {
	c := impl.Chan{Me: 1, Peer: 2, Next: 9, Sent: sentOf(5, 6, 8, 9), Owed: []int{1}}
	for _, row := range []struct{ acks, left []int }{
		{nil, []int{5, 6, 8, 9}},
		{[]int{5}, []int{6, 8, 9}},
		{[]int{9}, []int{5, 6, 8}},
		{[]int{8, 6}, []int{5, 9}},
		{[]int{9, 8, 6, 5}, nil},
		{[]int{5, 5, 5, 5}, []int{6, 8, 9}},
		{[]int{7, 4, 10, mostNum}, []int{5, 6, 8, 9}},
		{[]int{1, 9, 2, 6}, []int{5, 8}},
	} {
		left := changed(c, func(c *impl.Chan) { c.Sent = sentOf(row.left...) })
		checkTake(t, c, ackOnly(row.acks...), left, true)
		withText := changed(left, func(c *impl.Chan) { c.Owed, c.Early = []int{1, 3}, []impl.Early{{Num: 3, Body: "x"}} })
		checkTake(t, c, control(3, row.acks, "x"), withText, true)
		checkNoTake(t, c, control(0, row.acks, "x"))
		checkNoTake(t, c, control(5, row.acks, "x"))
	}
}

func TestTheLastTexts(t *testing.T) {
	at := changed(chanGot(lastTaken), func(c *impl.Chan) { c.Next, c.Sent, c.Early = 3, sentOf(2, 3), earlyOf(992, 993, 994) })
	want := changed(at, func(c *impl.Chan) {
		c.Got, c.Sent, c.Early, c.Owed, c.Out = 994, sentOf(3), nil, []int{991}, append(c.Out, "x", "e992", "e993", "e994")
	})
	checkTake(t, at, control(991, []int{2}, "x"), want, true)
	checkTake(t, at, ackOnly(2, 3), changed(at, func(c *impl.Chan) { c.Sent = nil }), true)
	for _, got := range []int{991, 992, 994, 995, 999, 1000} {
		c := changed(chanGot(got), func(c *impl.Chan) { c.Next, c.Sent, c.Early, c.Owed = 3, sentOf(2, 3), earlyOf(got+2, got+4), []int{1} })
		checkChan(t, c, true)
		for _, num := range []int{1, got, got + 1, got + 2, got + 3, got + 4, got + 5} {
			checkNoTake(t, c, control(num, []int{2}, "x"))
		}
		checkNoTake(t, c, ackOnly(2, 3))
		checkNoTake(t, c, ackOnly())
		checkSend(t, c, 5, changed(c, func(c *impl.Chan) { c.Owed = nil }), packetOf(opAck, 0, 1, 2, 0, []int{1}, ""))
		checkPush(t, c, "x", changed(c, func(c *impl.Chan) { c.Queue = []string{"x"} }), true)
	}
}

func TestPacketsThatAreNotTaken(t *testing.T) {
	for _, c := range []impl.Chan{
		{Me: 1, Peer: 2, Next: 3, Sent: sentOf(2, 3), Early: earlyOf(3), Owed: []int{3}},
		changed(chanGot(5), func(c *impl.Chan) { c.Next, c.Sent = 3, sentOf(3) }),
		{Me: 1, Peer: 2},
	} {
		num := c.Got + 1
		checkTakeLike(t, c, control(num, []int{2}, "x"))
		for _, end := range append(endsOutside(), 3, 50, 99) {
			checkNoTake(t, c, packetOf(opControl, 0, end, 1, num, []int{2}, "x"))
			checkNoTake(t, c, packetOf(opControl, 0, 2, end, num, []int{2}, "x"))
			checkNoTake(t, c, packetOf(opAck, 0, end, 1, 0, []int{2}, ""))
			checkNoTake(t, c, packetOf(opAck, 0, 2, end, 0, []int{2}, ""))
		}
		checkNoTake(t, c, packetOf(opControl, 0, 1, 2, num, []int{2}, "x"))
		checkNoTake(t, c, packetOf(opControl, 0, 1, 1, num, []int{2}, "x"))
		checkNoTake(t, c, packetOf(opControl, 0, 2, 2, num, []int{2}, "x"))
		checkNoTake(t, c, packetOf(opData, 0, 2, 1, num, nil, "x"))
		checkNoTake(t, c, packetOf(opData, 0, 2, 1, 0, nil, ""))
		checkNoTake(t, c, packetOf(opData, 0, 2, 1, num, []int{2}, "x"))
		for _, op := range opsOutside() {
			checkNoTake(t, c, packetOf(op, 0, 2, 1, num, []int{2}, "x"))
			checkNoTake(t, c, packetOf(op, 0, 2, 1, 0, []int{2}, ""))
		}
		for _, key := range keysOutside() {
			checkNoTake(t, c, packetOf(opControl, key, 2, 1, num, []int{2}, "x"))
			checkNoTake(t, c, packetOf(opAck, key, 2, 1, 0, []int{2}, ""))
		}
		for _, ack := range append(numsOutside(), 0) {
			checkNoTake(t, c, control(num, []int{2, ack}, "x"))
			checkNoTake(t, c, ackOnly(ack, 2))
		}
		checkNoTake(t, c, control(num, []int{2, 3, 2, 3, 2}, "x"))
		checkNoTake(t, c, ackOnly(2, 3, 2, 3, 2))
		checkNoTake(t, c, control(num, []int{2}, longest()+"l"))
		checkNoTake(t, c, packetOf(opAck, 0, 2, 1, num, []int{2}, ""))
		checkNoTake(t, c, packetOf(opAck, 0, 2, 1, 0, []int{2}, "x"))
		checkNoTake(t, c, impl.Packet{})
	}
}

func TestTakesOfEachKeyAndBody(t *testing.T) {
	c := impl.Chan{Me: 1, Peer: 2, Next: 1, Sent: sentOf(1)}
	for key := range lastKey + 1 {
		for _, body := range bodiesOfNote() {
			want := impl.Chan{Me: 1, Peer: 2, Next: 1, Got: 1, Owed: []int{1}, Out: []string{body}}
			checkTake(t, c, packetOf(opControl, key, 2, 1, 1, []int{1}, body), want, true)
		}
		checkTake(t, c, packetOf(opAck, key, 2, 1, 0, []int{1}, ""), impl.Chan{Me: 1, Peer: 2, Next: 1}, true)
	}
	alone := impl.Chan{Me: 5, Peer: 5}
	checkTake(t, alone, packetOf(opControl, 0, 5, 5, 1, nil, "x"), impl.Chan{Me: 5, Peer: 5, Got: 1, Owed: []int{1}, Out: []string{"x"}}, true)
}

// Each way in which up to four of five Nums are Sent, each of them due, not yet
// due, or at its last try.
func TestEachStateOfWhatIsSent(t *testing.T) {
	kinds := [][2]int{{5, 1}, {6, 2}, {5, maxTries - 1}, {5, maxTries}}
	for state := range 3125 {
		c := impl.Chan{Me: 1, Peer: 2, Next: 9, Queue: textsInRow(state % 3), Owed: []int{3, 1}[:state%3*2/3]}
		for place, rest := 0, state; place < 5; place, rest = place+1, rest/5 {
			if kind := rest % 5; kind > 0 {
				num := place + 5
				c.Sent = append(c.Sent, sentAt(num, "s"+impl.Decimal(num), kinds[kind-1][0], kinds[kind-1][1]))
			}
		}
		checkChan(t, c, len(c.Sent) <= chanWindow)
		checkSendLike(t, c, 5)
	}
}

// Each way in which Nums are early and owed, and each Num that may come.
func TestEachStateOfWhatCame(t *testing.T) {
	for _, got := range []int{0, 3} {
		for state := range 8 {
			c := chanGot(got)
			for place := range 3 {
				if state>>place&1 == 1 {
					c.Early = append(c.Early, earlyOf(got+2+place)...)
				}
			}
			for owed := range 256 {
				c.Owed = nil
				for place := range 4 {
					if num := got - 1 + owed>>(2*place)&3*2; num >= 1 {
						c.Owed = append(c.Owed, num)
					}
				}
				if owed%5 > 0 && len(c.Owed) > 0 {
					c.Owed = c.Owed[:len(c.Owed)-1]
				}
				checkChan(t, c, chanRightLike(c))
				for num := range got + 7 {
					want, right := takeLike(c, control(num, nil, "x"))
					if after, ok := impl.Take(c, control(num, nil, "x")); !sameChan(after, want) || ok != right || impl.ChanOk(after) != chanRightLike(c) {
						t.Fatalf("Take(%v, %d) = %v, %v; want %v, %v", c, num, after, ok, want, right)
					}
				}
			}
		}
	}
}

func drawnBody(draw *rand.Rand) string {
	sizes := []int{0, 1, 2, 5, maxBody - 1, maxBody}
	size := sizes[draw.Intn(len(sizes))]
	if draw.Intn(100) == 0 {
		size = maxBody + 1
	}
	text := make([]byte, size)
	draw.Read(text)
	return string(text)
}

// near is mostly within both ends, and at times just outside of them.
func near(draw *rand.Rand, least, most int) int {
	switch draw.Intn(20) {
	case 0:
		return least
	case 1:
		return most
	case 2:
		if draw.Intn(6) == 0 {
			return least - 1
		}
	case 3:
		if draw.Intn(6) == 0 {
			return most + 1
		}
	}
	return least + draw.Intn(max(1, most-least+1))
}

func drawnChan(draw *rand.Rand) impl.Chan {
	c := chanGot(draw.Intn(7))
	if draw.Intn(40) == 0 {
		c = chanGot(near(draw, lastTaken-3, lastTaken+4))
	}
	c.Next = []int{draw.Intn(12), near(draw, mostNext-8, mostNext)}[draw.Intn(2)]
	for range draw.Intn(6) {
		c.Queue = append(c.Queue, drawnBody(draw))
	}
	num := c.Next - draw.Intn(8)
	for range draw.Intn(chanWindow + 1) {
		if num >= 1 && num <= c.Next || draw.Intn(30) == 0 {
			c.Sent = append(c.Sent, sentAt(num, drawnBody(draw), draw.Intn(20), near(draw, 1, maxTries)))
		}
		num += 1 + draw.Intn(3)
	}
	for num := c.Got + 2; num <= c.Got+chanWindow; num++ {
		if draw.Intn(2) == 0 {
			c.Early = append(c.Early, impl.Early{Num: num, Body: drawnBody(draw)})
		}
	}
	for range draw.Intn(mostOwed + 1) {
		c.Owed = append(c.Owed, near(draw, 1, c.Got+chanWindow))
	}
	return c
}

// drawnFor is mostly a packet that the channel takes.
func drawnFor(draw *rand.Rand, c impl.Chan) impl.Packet {
	p := packetOf(opControl, draw.Intn(8), c.Peer, c.Me, near(draw, 1, c.Got+chanWindow), nil, drawnBody(draw))
	for range draw.Intn(mostAcks + 1) {
		p.Acks = append(p.Acks, max(1, c.Next-draw.Intn(9)))
	}
	switch draw.Intn(12) {
	case 0, 1, 2:
		p.Op, p.Num, p.Body = opAck, 0, ""
	case 3:
		return drawnPacket(draw)
	case 4:
		p.From = 1 + draw.Intn(3)
	case 5:
		p.To = 1 + draw.Intn(3)
	}
	return p
}

func TestDrawnChans(t *testing.T) {
	draw := rand.New(rand.NewSource(173))
	right, taken := 0, 0
	for range 6000 {
		c := drawnChan(draw)
		checkChan(t, c, chanRightLike(c))
		checkPushLike(t, c, drawnBody(draw))
		checkSendLike(t, c, draw.Intn(22)-1)
		p := drawnFor(draw, c)
		checkTakeLike(t, c, p)
		if chanRightLike(c) {
			right++
		}
		if _, ok := takeLike(c, p); ok {
			taken++
		}
	}
	if right < 2000 || taken < 1000 {
		t.Errorf("only %d of the drawn channels are right, and %d took a packet", right, taken)
	}
}

// One channel lives on, whatever comes: what it is told is no other end's.
func TestAChanStaysRightWhateverComes(t *testing.T) {
	draw := rand.New(rand.NewSource(174))
	for life := range 150 {
		c, _ := impl.ChanNew(1+draw.Intn(99), 1+draw.Intn(99))
		now := 0
		for range 200 {
			before, told := cloneChan(c), []impl.Packet(nil)
			switch draw.Intn(4) {
			case 0:
				c, _ = impl.Push(c, drawnBody(draw))
			case 1:
				c, told = impl.Send(c, now)
			default:
				c, _ = impl.Take(c, drawnFor(draw, c))
			}
			if !impl.ChanOk(c) {
				t.Fatalf("in life %d %v came to %v, which is not right", life, before, c)
			}
			checkStaysRight(t, "a life", before, c, told)
			now += draw.Intn(20)
		}
	}
}

// What comes from ChanNew is pushed to as often as it takes a text, up to its
// last Num: no more than that is ever in Queue, and so Send stays right there.
func TestAChanFromNewStaysRightUpToItsLastNum(t *testing.T) {
	draw := rand.New(rand.NewSource(176))
	for life := range 12 {
		c, _ := impl.ChanNew(1, 2)
		pushed, now := 0, 0
		for step := 0; step < 20000 && (c.Next < mostNext || len(c.Sent) > 0); step++ {
			before, told := cloneChan(c), []impl.Packet(nil)
			switch draw.Intn(4) {
			case 0:
				c, told = impl.Send(c, now)
			case 1:
				acks := []int{max(1, c.Next-3), max(1, c.Next-2), max(1, c.Next-1), max(1, c.Next)}
				c, _ = impl.Take(c, ackOnly(acks[draw.Intn(2):]...))
			default:
				for ok := true; ok && draw.Intn(20) > life; {
					if c, ok = impl.Push(c, "x"); ok {
						pushed++
					}
				}
			}
			checkStaysRight(t, "a life", before, c, told)
			if !impl.ChanOk(c) || !hasNumsLeft(c) {
				t.Fatalf("in life %d %v came to %v", life, before, c)
			}
			now += 300
		}
		if c.Next != mostNext || pushed != mostNext || len(c.Queue) > 0 {
			t.Fatalf("life %d ends with %d pushed, at %v", life, pushed, c)
		}
		checkNoPush(t, c, "x")
		checkNoSend(t, c, 5)
	}
}

// twoEnds and a net between them that may lose, double and turn packets.
type twoEnds struct {
	ends [2]impl.Chan
	put  [2][]string
	net  []impl.Packet
	now  int
}

func newEnds() *twoEnds {
	first, _ := impl.ChanNew(1, 2)
	second, _ := impl.ChanNew(2, 1)
	return &twoEnds{ends: [2]impl.Chan{first, second}}
}

func (e *twoEnds) push(end int, s string) {
	next, ok := impl.Push(e.ends[end], s)
	if ok {
		e.put[end] = append(e.put[end], s)
	}
	e.ends[end] = next
}

func (e *twoEnds) send(end int) {
	next, packets := impl.Send(e.ends[end], e.now)
	e.ends[end] = next
	e.net = append(e.net, packets...)
}

func (e *twoEnds) take(at int) {
	p := e.net[at]
	e.net = slices.Delete(e.net, at, at+1)
	e.ends[p.To-1], _ = impl.Take(e.ends[p.To-1], p)
}

func (e *twoEnds) check(t *testing.T) {
	t.Helper()
	for end, c := range e.ends {
		if !impl.ChanOk(c) {
			t.Fatalf("%v is not right", c)
		}
		if other := e.put[1-end]; len(c.Out) > len(other) || !slices.Equal(c.Out, other[:len(c.Out)]) {
			t.Fatalf("%q came out, but %q was put in", c.Out, other)
		}
	}
	for _, p := range e.net {
		if !impl.PacketOk(p) {
			t.Fatalf("%v goes out and is not right", p)
		}
	}
}

// settle has nothing lost any more, long enough for each try.
func (e *twoEnds) settle(t *testing.T) {
	t.Helper()
	for range 100 {
		e.send(0)
		e.send(1)
		for len(e.net) > 0 {
			e.take(0)
			e.check(t)
		}
		e.now += 300
	}
}

func TestADrawnTalkOfTwoEnds(t *testing.T) {
	draw := rand.New(rand.NewSource(175))
	for talk := range 120 {
		e := newEnds()
		lossy := talk%2 == 0
		for step := range 150 {
			switch kind := draw.Intn(10); {
			case kind < 2:
				e.push(draw.Intn(2), "text "+impl.Decimal(step))
			case kind < 5:
				e.send(draw.Intn(2))
			case len(e.net) == 0:
			case kind == 5 && lossy:
				at := draw.Intn(len(e.net))
				e.net = slices.Delete(e.net, at, at+1)
			case kind == 6:
				e.net = append(e.net, e.net[draw.Intn(len(e.net))])
			default:
				e.take(draw.Intn(len(e.net)))
			}
			e.check(t)
			e.now += draw.Intn(3)
		}
		if lossy {
			continue
		}
		e.settle(t)
		for end, c := range e.ends {
			if !slices.Equal(c.Out, e.put[1-end]) || len(c.Queue) > 0 || len(c.Sent) > 0 {
				t.Fatalf("nothing was lost, but %q came out, and %q was put in: %v", c.Out, e.put[1-end], e.ends[1-end])
			}
		}
	}
}

// What is lost a few times comes at last, and in order.
func TestLostTextsComeAgain(t *testing.T) {
	for losses := range maxTries {
		e := newEnds()
		for _, text := range textsInRow(9) {
			e.push(0, text)
		}
		for range losses {
			e.send(0)
			e.net = nil
			e.now += 300
		}
		e.settle(t)
		if !slices.Equal(e.ends[1].Out, textsInRow(9)) {
			t.Errorf("after %d losses %q came out", losses, e.ends[1].Out)
		}
	}
	e := newEnds()
	e.push(0, "x")
	for range maxTries {
		e.send(0)
		e.net = nil
		e.now += 300
	}
	e.settle(t)
	if len(e.ends[1].Out) > 0 || len(e.ends[0].Sent) != 1 {
		t.Errorf("what was lost %d times came out: %v", maxTries, e.ends)
	}
}

// A long talk comes to where nothing is taken any more, and stays right there.
func TestALongTalkComesToItsEnd(t *testing.T) {
	e := newEnds()
	for e.now < 300*1100 {
		e.push(0, "text "+impl.Decimal(len(e.put[0])))
		e.push(1, "back "+impl.Decimal(len(e.put[1])))
		e.send(0)
		e.send(1)
		for len(e.net) > 0 {
			e.take(0)
		}
		e.now += 300
	}
	e.check(t)
	for _, c := range e.ends {
		if c.Got <= lastTaken || c.Got > lastTaken+chanWindow || c.Next > mostNext || c.Next+len(c.Queue) > mostNext {
			t.Errorf("Got is %d, Next %d, with %d in Queue", c.Got, c.Next, len(c.Queue))
		}
	}
}

func TestTwoAnswersOfAChanShareNothing(t *testing.T) {
	for _, c := range append(chansOfNote(), wrongChans()...) {
		var lists []memory
		for range 2 {
			pushed, _ := impl.Push(c, "x")
			sent, packets := impl.Send(c, 5)
			took, _ := impl.Take(c, packetOf(opControl, 0, c.Peer, c.Me, c.Got+1, []int{1}, "x"))
			acked, _ := impl.Take(c, packetOf(opAck, 0, c.Peer, c.Me, 0, []int{1}, ""))
			for _, one := range []impl.Chan{pushed, sent, took, acked} {
				lists = append(lists, listsOf(one, false)...)
			}
			lists = append(lists, memoryOf(packets, false, "the packets"))
			for _, p := range packets {
				lists = append(lists, memoryOf(p.Acks, false, "Acks"))
			}
		}
		checkDisjoint(t, "a channel", lists, false)
	}
}

func TestRefusalsOfAChanLeaveNothingBehind(t *testing.T) {
	c := impl.Chan{Me: 1, Peer: 2, Queue: []string{"a"}, Owed: []int{2}, Early: earlyOf(2)}
	for range 3 {
		checkNoPush(t, c, longest()+"l")
		checkNoSend(t, c, -1)
		checkNoTake(t, c, control(5, nil, "x"))
		checkNoTake(t, c, packetOf(opControl, 0, 3, 1, 1, nil, "x"))
		checkNoPush(t, impl.Chan{}, "x")
		checkNoSend(t, impl.Chan{}, 0)
		checkNoTake(t, impl.Chan{}, impl.Packet{})
		checkSend(t, c, 0, impl.Chan{Me: 1, Peer: 2, Next: 1, Sent: []impl.Pending{sentAt(1, "a", 2, 1)}, Early: earlyOf(2)}, packetOf(opControl, 0, 1, 2, 1, []int{2}, "a"))
		checkTake(t, c, control(1, nil, "x"), impl.Chan{Me: 1, Peer: 2, Queue: []string{"a"}, Got: 2, Owed: []int{2, 1}, Out: []string{"x", "e2"}}, true)
	}
}

func TestManySendAtOnce(t *testing.T) {
	c := impl.Chan{Me: 1, Peer: 2, Next: 2, Sent: []impl.Pending{sentAt(2, "s", 0, 1)}, Queue: textsInRow(6), Owed: []int{1, 3}}
	want, packets := sendLike(c, 5)
	var all sync.WaitGroup
	for range 16 {
		all.Go(func() {
			for range 200 {
				if got, told := impl.Send(c, 5); !sameChan(got, want) || !slices.EqualFunc(told, packets, samePacket) {
					t.Errorf("Send(%v, 5) = %v, %v; want %v, %v", c, got, told, want, packets)
					return
				}
			}
		})
	}
	all.Wait()
}

// checkNobodyIsLeft gives those that have told all the time to end.
func checkNobodyIsLeft(t *testing.T, before int) {
	t.Helper()
	for range 10000 {
		if runtime.NumGoroutine() <= before {
			return
		}
		runtime.Gosched()
	}
	t.Errorf("%d goroutines are there; before it were %d", runtime.NumGoroutine(), before)
}

func TestASendLeavesNobodyBehind(t *testing.T) {
	before := runtime.NumGoroutine()
	for range 1000 {
		for _, c := range []impl.Chan{{Me: 1, Peer: 2, Queue: textsInRow(6), Owed: []int{1, 3}}, {Me: 1, Peer: 2, Owed: []int{1}}, {Me: 1, Peer: 2}, {}} {
			impl.Send(c, 5)
		}
	}
	checkNobodyIsLeft(t, before)
}
