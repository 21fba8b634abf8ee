package tests

import (
	"math"
	"math/rand"
	"runtime"
	"slices"
	"strings"
	"sync"
	"testing"

	"loop.example/g00193/impl"
)

const (
	turnSend   = 1
	turnTake   = 2
	turnLose   = 3
	turnTwice  = 4
	mostTexts  = 20
	mostTurns  = 100
	mostRounds = 200
	turnTime   = 3
	roundTime  = 300
)

var (
	spareTurn   = impl.Turn{Kind: 77, End: 77, At: 77}
	spareChan   = impl.Chan{Me: 77, Peer: 77, Next: 77, Got: 77}
	sparePacket = impl.Packet{Op: 77, Key: 77, From: 77, To: 77, Num: 77, Body: spareText}
)

func sendBy(end int) impl.Turn { return impl.Turn{Kind: turnSend, End: end} }
func takeAt(at int) impl.Turn  { return impl.Turn{Kind: turnTake, At: at} }
func loseAt(at int) impl.Turn  { return impl.Turn{Kind: turnLose, At: at} }
func twiceAt(at int) impl.Turn { return impl.Turn{Kind: turnTwice, At: at} }

func namedTexts(name string, size int) []string {
	var list []string
	for place := range size {
		list = append(list, name+impl.Decimal(place+1))
	}
	return list
}

func sameTalk(a, b impl.Talk) bool {
	return a.Now == b.Now && slices.EqualFunc(a.Ends, b.Ends, sameChan) && slices.EqualFunc(a.Net, b.Net, samePacket)
}

func clonePacket(p impl.Packet) impl.Packet {
	p.Acks = slices.Clone(p.Acks)
	return p
}

func cloneTalk(t impl.Talk) impl.Talk {
	next := impl.Talk{Now: t.Now}
	for _, end := range t.Ends {
		next.Ends = append(next.Ends, cloneChan(end))
	}
	for _, p := range t.Net {
		next.Net = append(next.Net, clonePacket(p))
	}
	return next
}

// newTalkLike has those texts in Queue that are short enough; there are never
// as many as Queue has room for.
func newTalkLike(a, b []string) impl.Talk {
	tooLong := func(text string) bool { return len(text) > maxBody }
	return impl.Talk{Ends: []impl.Chan{
		{Me: 1, Peer: 2, Queue: slices.DeleteFunc(slices.Clone(a), tooLong)},
		{Me: 2, Peer: 1, Queue: slices.DeleteFunc(slices.Clone(b), tooLong)},
	}}
}

func sendTalkLike(t impl.Talk, end int) impl.Talk {
	c, packets := sendLike(t.Ends[end], t.Now)
	t.Ends = slices.Concat(t.Ends[:end], []impl.Chan{c}, t.Ends[end+1:])
	t.Net = slices.Concat(t.Net, packets)
	return t
}

func bringTalkLike(t impl.Talk, p impl.Packet) impl.Talk {
	ends := slices.Clone(t.Ends)
	for end, c := range t.Ends {
		if c.Me == p.To {
			ends[end], _ = takeLike(c, p)
			break
		}
	}
	t.Ends = ends
	return t
}

// turnLike has the Net in three: what is ahead of a place, it, and the rest.
func turnLike(t impl.Talk, e impl.Turn) impl.Talk {
	if e.Kind == turnSend {
		t = sendTalkLike(t, e.End)
	} else if count := len(t.Net); count > 0 {
		place := e.At - e.At/count*count
		p, others := t.Net[place], slices.Concat(t.Net[:place], t.Net[place+1:])
		switch e.Kind {
		case turnTake:
			t = bringTalkLike(t, p)
			t.Net = others
		case turnLose:
			t.Net = others
		case turnTwice:
			t.Net = slices.Concat(t.Net, []impl.Packet{p})
		}
	}
	t.Now += turnTime
	return t
}

func turnRightLike(e impl.Turn) bool {
	return slices.Contains([]int{turnSend, turnTake, turnLose, turnTwice}, e.Kind) && (e.End == 0 || e.End == 1) && !(e.At < 0)
}

func runLike(a, b []string, events []impl.Turn) (impl.Talk, bool) {
	wrong := slices.ContainsFunc(events, func(e impl.Turn) bool { return !turnRightLike(e) })
	if len(a) > mostTexts || len(b) > mostTexts || len(events) > mostTurns || wrong {
		return impl.Talk{}, false
	}
	talk := newTalkLike(a, b)
	for _, e := range events {
		talk = turnLike(talk, e)
	}
	return talk, true
}

func settleLike(t impl.Talk, rounds int) impl.Talk {
	if len(t.Ends) != 2 {
		return impl.Talk{}
	}
	for round := 0; round < rounds && round < mostRounds; round++ {
		t = sendTalkLike(sendTalkLike(t, 0), 1)
		for _, p := range t.Net {
			t = bringTalkLike(t, p)
		}
		t.Net = nil
		t.Now += roundTime
	}
	return t
}

func listsOfTalk(t impl.Talk, given bool) []memory {
	lists := []memory{memoryOf(t.Ends, given, "Ends"), memoryOf(t.Net, given, "Net")}
	for _, end := range t.Ends {
		lists = append(lists, listsOf(end, given)...)
	}
	for _, p := range t.Net {
		lists = append(lists, memoryOf(p.Acks, given, "Acks"))
	}
	return lists
}

func textsOfTalk(t impl.Talk, given bool) []memory {
	var texts []memory
	for _, end := range t.Ends {
		for _, text := range textsOf(end) {
			texts = append(texts, memoryOfText(text, given))
		}
	}
	for _, p := range t.Net {
		texts = append(texts, memoryOfText(p.Body, given))
	}
	return texts
}

// isBeginningLike is asked for what BeginsWith tells, without asking it.
func isBeginningLike(all, some []string) bool {
	for place, text := range some {
		if place >= len(all) || all[place] != text {
			return false
		}
	}
	return true
}

// checkPromise holds what promise 14 says, whatever was lost, against a talk.
func checkPromise(t *testing.T, talk impl.Talk, a, b []string) {
	t.Helper()
	put := newTalkLike(a, b)
	for end, c := range talk.Ends {
		if all := put.Ends[1-end].Queue; !isBeginningLike(all, c.Out) || !impl.BeginsWith(all, c.Out) {
			t.Errorf("%q came out, but %q was put in", c.Out, all)
		}
		if !impl.ChanOk(c) {
			t.Errorf("the end %v is not right", c)
		}
	}
	for _, p := range talk.Net {
		if !impl.PacketOk(p) {
			t.Errorf("%v is on the Net and not right", p)
		}
	}
}

func checkRun(t *testing.T, a, b []string, events []impl.Turn, want impl.Talk, right bool) {
	t.Helper()
	lentA, roomA := inRoom(a, spareText)
	lentB, roomB := inRoom(b, spareText)
	lentEvents, roomEvents := inRoom(events, spareTurn)
	wereA, wereB, wereEvents := slices.Clone(roomA), slices.Clone(roomB), slices.Clone(roomEvents)
	got, ok := impl.RunTalk(lentA, lentB, lentEvents)
	if !sameTalk(got, want) || ok != right {
		t.Errorf("RunTalk(%q, %q, %v) = %v, %v; want %v, %v", a, b, events, got, ok, want, right)
	}
	if !slices.Equal(roomA, wereA) || !slices.Equal(roomB, wereB) || !slices.Equal(roomEvents, wereEvents) {
		t.Errorf("RunTalk wrote into its arguments: %q, %q, %v", roomA, roomB, roomEvents)
	}
	lists, texts := listsOfTalk(got, false), textsOfTalk(got, false)
	lists = append(lists, memoryOf(roomA, true, "a"), memoryOf(roomB, true, "b"), memoryOf(roomEvents, true, "events"))
	for _, text := range slices.Concat(roomA, roomB) {
		texts = append(texts, memoryOfText(text, true))
	}
	checkDisjoint(t, "RunTalk", lists, false)
	checkDisjoint(t, "RunTalk", texts, true)
	checkPromise(t, got, a, b)
}

func checkRunLike(t *testing.T, a, b []string, events []impl.Turn) impl.Talk {
	t.Helper()
	want, right := runLike(a, b, events)
	checkRun(t, a, b, events, want, right)
	return want
}

func checkNoRun(t *testing.T, a, b []string, events []impl.Turn) {
	t.Helper()
	checkRun(t, a, b, events, impl.Talk{}, false)
}

// lendTalk lays all lists of a talk into greater rooms.
func lendTalk(talk impl.Talk) (impl.Talk, impl.Talk) {
	lent, room := impl.Talk{Now: talk.Now}, impl.Talk{Now: talk.Now}
	var lentEnds, roomEnds []impl.Chan
	for _, end := range talk.Ends {
		one := lendChan(end)
		lentEnds, roomEnds = append(lentEnds, one.c), append(roomEnds, one.room)
	}
	var lentNet, roomNet []impl.Packet
	for _, p := range talk.Net {
		inside, whole := p, p
		inside.Acks, whole.Acks = inRoom(p.Acks, spareAck)
		lentNet, roomNet = append(lentNet, inside), append(roomNet, whole)
	}
	_, room.Ends = inRoom(roomEnds, spareChan)
	_, room.Net = inRoom(roomNet, sparePacket)
	lent.Ends, _ = inRoom(lentEnds, spareChan)
	lent.Net, _ = inRoom(lentNet, sparePacket)
	return lent, room
}

// wholeTalk is a talk with the rooms of its two greatest lists.
func wholeTalk(talk impl.Talk) impl.Talk {
	talk.Ends, talk.Net = talk.Ends[:cap(talk.Ends)], talk.Net[:cap(talk.Net)]
	return talk
}

func checkSettle(t *testing.T, talk impl.Talk, rounds int, want impl.Talk) {
	t.Helper()
	lent, room := lendTalk(talk)
	wereLent, wereRoom := cloneTalk(wholeTalk(lent)), cloneTalk(room)
	got := impl.Settle(lent, rounds)
	if !sameTalk(got, want) {
		t.Errorf("Settle(%v, %d) = %v; want %v", talk, rounds, got, want)
	}
	if !sameTalk(wholeTalk(lent), wereLent) || !sameTalk(room, wereRoom) {
		t.Errorf("Settle wrote into its argument: %v in %v; want %v in %v", wholeTalk(lent), room, wereLent, wereRoom)
	}
	lists := slices.Concat(listsOfTalk(wholeTalk(lent), true), listsOfTalk(room, true), listsOfTalk(got, false))
	checkDisjoint(t, "Settle", lists, false)
	checkDisjoint(t, "Settle", slices.Concat(textsOfTalk(room, true), textsOfTalk(got, false)), true)
}

func checkSettleLike(t *testing.T, talk impl.Talk, rounds int) impl.Talk {
	t.Helper()
	want := settleLike(talk, rounds)
	checkSettle(t, talk, rounds, want)
	return want
}

// checkAllCame holds of a settled talk from which nothing was lost for good.
func checkAllCame(t *testing.T, talk impl.Talk, a, b []string) {
	t.Helper()
	put := newTalkLike(a, b)
	for end, c := range talk.Ends {
		if all := put.Ends[1-end].Queue; !slices.Equal(c.Out, all) {
			t.Errorf("%q came out, and %q was put in", c.Out, all)
		}
		if len(c.Queue) > 0 || len(c.Sent) > 0 || len(c.Early) > 0 || len(c.Owed) > 0 {
			t.Errorf("the end %v is not at rest", c)
		}
	}
	if len(talk.Net) > 0 {
		t.Errorf("%v stays on the Net", talk.Net)
	}
}

func roundsOfNote() []int {
	return []int{math.MinInt, -201, -1, 0, 1, 2, 199, 200, 201, 202, 1 << 32, math.MaxInt}
}

func TestConstantsOfTalks(t *testing.T) {
	if impl.TurnSend != turnSend || impl.TurnTake != turnTake || impl.TurnLose != turnLose || impl.TurnTwice != turnTwice {
		t.Errorf("the kinds are %d, %d, %d, %d; want 1 to 4", impl.TurnSend, impl.TurnTake, impl.TurnLose, impl.TurnTwice)
	}
}

func TestTurnsThatAreRight(t *testing.T) {
	right := 0
	extremes := []int{math.MinInt, math.MinInt + 1, -1 << 32, -5, -4, -3, -2, -1, 0, 1, 2, 3, 4, 5, 6, 99, 100, 1 << 32, 1<<32 + 1, math.MaxInt - 1, math.MaxInt}
	for _, kind := range extremes {
		for _, end := range extremes {
			for _, at := range extremes {
				e := impl.Turn{Kind: kind, End: end, At: at}
				want := kind > 0 && kind < 5 && end > -1 && end < 2 && at > -1
				if got := impl.TurnOk(e); got != want {
					t.Errorf("TurnOk(%v) = %v; want %v", e, got, want)
				}
				if want {
					right++
				}
			}
		}
	}
	if right != 4*2*13 {
		t.Errorf("%d of the turns are right", right)
	}
	if impl.TurnOk(impl.Turn{}) {
		t.Error("the zero turn is right")
	}
}

// step is an event and what it changes, but for Now.
type step struct {
	e      impl.Turn
	change func(talk *impl.Talk)
}

func checkSteps(t *testing.T, a, b []string, steps []step) impl.Talk {
	t.Helper()
	want := newTalkLike(a, b)
	checkRun(t, a, b, nil, want, true)
	var events []impl.Turn
	for _, one := range steps {
		want = cloneTalk(want)
		one.change(&want)
		want.Now += turnTime
		events = append(events, one.e)
		checkRun(t, a, b, events, want, true)
	}
	return want
}

func TestATalkStepByStep(t *testing.T) {
	first, second := packetOf(opControl, 0, 1, 2, 1, nil, "a"), packetOf(opControl, 0, 1, 2, 2, nil, "b")
	back := packetOf(opControl, 0, 2, 1, 1, []int{2}, "c")
	again := packetOf(opControl, 0, 1, 2, 1, []int{1}, "a")
	ack := packetOf(opAck, 0, 2, 1, 0, []int{1}, "")
	net := func(talk *impl.Talk, packets ...impl.Packet) { talk.Net = packets }
	end := checkSteps(t, []string{"a", "b"}, []string{"c"}, []step{
		{sendBy(0), func(w *impl.Talk) {
			w.Ends[0] = impl.Chan{Me: 1, Peer: 2, Next: 2, Sent: []impl.Pending{sentAt(1, "a", 2, 1), sentAt(2, "b", 2, 1)}}
			net(w, first, second)
		}},
		{loseAt(0), func(w *impl.Talk) { net(w, second) }},
		{takeAt(0), func(w *impl.Talk) {
			w.Ends[1] = impl.Chan{Me: 2, Peer: 1, Queue: []string{"c"}, Early: []impl.Early{{Num: 2, Body: "b"}}, Owed: []int{2}}
			net(w)
		}},
		{sendBy(1), func(w *impl.Talk) {
			w.Ends[1] = impl.Chan{Me: 2, Peer: 1, Next: 1, Sent: []impl.Pending{sentAt(1, "c", 11, 1)}, Early: []impl.Early{{Num: 2, Body: "b"}}}
			net(w, back)
		}},
		{takeAt(0), func(w *impl.Talk) {
			w.Ends[0] = impl.Chan{Me: 1, Peer: 2, Next: 2, Sent: []impl.Pending{sentAt(1, "a", 2, 1)}, Got: 1, Owed: []int{1}, Out: []string{"c"}}
			net(w)
		}},
		{sendBy(0), func(w *impl.Talk) {
			w.Ends[0].Sent[0] = sentAt(1, "a", 19, 2)
			w.Ends[0].Owed = nil
			net(w, again)
		}},
		{twiceAt(0), func(w *impl.Talk) { net(w, again, again) }},
		{takeAt(0), func(w *impl.Talk) {
			w.Ends[1] = impl.Chan{Me: 2, Peer: 1, Next: 1, Got: 2, Owed: []int{1}, Out: []string{"a", "b"}}
			net(w, again)
		}},
		{takeAt(0), func(w *impl.Talk) { net(w) }},
		{sendBy(1), func(w *impl.Talk) {
			w.Ends[1].Owed = nil
			net(w, ack)
		}},
		{takeAt(0), func(w *impl.Talk) {
			w.Ends[0].Sent = nil
			net(w)
		}},
		{takeAt(0), func(*impl.Talk) {}},
		{sendBy(0), func(*impl.Talk) {}},
	})
	if end.Now != 39 {
		t.Errorf("Now is %d behind 13 events", end.Now)
	}
	checkAllCame(t, end, []string{"a", "b"}, []string{"c"})
}

func TestATalkOfNothing(t *testing.T) {
	want := impl.Talk{Ends: []impl.Chan{{Me: 1, Peer: 2}, {Me: 2, Peer: 1}}}
	checkRun(t, nil, nil, nil, want, true)
	checkRun(t, []string{}, []string{}, []impl.Turn{}, want, true)
	for _, rounds := range roundsOfNote() {
		settled := want
		settled.Now = roundTime * max(0, min(rounds, mostRounds))
		checkSettle(t, want, rounds, settled)
	}
}

func TestAnEventOnAnEmptyNetTakesItsTime(t *testing.T) {
	for _, at := range []int{0, 1, 2, 99, math.MaxInt - 1, math.MaxInt} {
		for _, end := range []int{0, 1} {
			for _, kind := range []int{turnTake, turnLose, turnTwice} {
				e := impl.Turn{Kind: kind, End: end, At: at}
				want := impl.Talk{Ends: []impl.Chan{{Me: 1, Peer: 2, Queue: []string{"a"}}, {Me: 2, Peer: 1, Queue: []string{"b", "c"}}}, Now: 3}
				checkRun(t, []string{"a"}, []string{"b", "c"}, []impl.Turn{e}, want, true)
				want.Now = 300
				checkRun(t, []string{"a"}, []string{"b", "c"}, slices.Repeat([]impl.Turn{e}, mostTurns), want, true)
			}
		}
	}
}

// What is sent, behind events on an empty Net, is due from its own time on.
func TestASendHasTheTimeOfItsEvent(t *testing.T) {
	for ahead := range mostTurns {
		events := append(slices.Repeat([]impl.Turn{takeAt(0)}, ahead), sendBy(1))
		want := impl.Talk{
			Ends: []impl.Chan{{Me: 1, Peer: 2}, {Me: 2, Peer: 1, Next: 1, Sent: []impl.Pending{sentAt(1, "b", 3*ahead+2, 1)}}},
			Now:  3*ahead + 3,
			Net:  []impl.Packet{packetOf(opControl, 0, 2, 1, 1, nil, "b")},
		}
		checkRun(t, nil, []string{"b"}, events, want, true)
	}
}

// The places of a Net of each size up to two full windows, by At.
func TestPlacesOnTheNet(t *testing.T) {
	for size := 1; size <= 2*chanWindow; size++ {
		a, b := namedTexts("a", size/2), namedTexts("b", size-size/2)
		begin := []impl.Turn{sendBy(0), sendBy(1)}
		before, _ := runLike(a, b, begin)
		if len(before.Net) != size {
			t.Fatalf("%d are on the Net; want %d", len(before.Net), size)
		}
		for at, place := range map[int]int{0: 0, size - 1: size - 1, size: 0, 2*size - 1: size - 1, 2 * size: 0, 1000 * size: 0, math.MaxInt: math.MaxInt % size, math.MaxInt - math.MaxInt%size: 0, size + 1: 1 % size} {
			without := cloneTalk(before)
			without.Net = slices.Delete(without.Net, place, place+1)
			without.Now += turnTime
			checkRun(t, a, b, append(slices.Clone(begin), loseAt(at)), without, true)

			more := cloneTalk(before)
			more.Net = append(more.Net, clonePacket(more.Net[place]))
			more.Now += turnTime
			checkRun(t, a, b, append(slices.Clone(begin), twiceAt(at)), more, true)

			p := before.Net[place]
			without.Ends[p.To-1], _ = takeLike(without.Ends[p.To-1], p)
			checkRun(t, a, b, append(slices.Clone(begin), takeAt(at)), without, true)
		}
	}
}

// End is of TurnSend alone, At of the others.
func TestWhatAnEventDoesNotLookAt(t *testing.T) {
	a, b := namedTexts("a", 3), namedTexts("b", 2)
	for _, at := range []int{0, 1, 5, math.MaxInt} {
		for end := range 2 {
			want, _ := runLike(a, b, []impl.Turn{sendBy(end)})
			checkRun(t, a, b, []impl.Turn{{Kind: turnSend, End: end, At: at}}, want, true)
			for _, kind := range []int{turnTake, turnLose, turnTwice} {
				want, _ := runLike(a, b, []impl.Turn{sendBy(0), sendBy(1), {Kind: kind, End: 0, At: at}})
				checkRun(t, a, b, []impl.Turn{sendBy(0), sendBy(1), {Kind: kind, End: end, At: at}}, want, true)
			}
		}
	}
}

func TestAPacketToldTwiceAndTakenTwice(t *testing.T) {
	p := packetOf(opControl, 0, 1, 2, 1, nil, "x")
	sender := impl.Chan{Me: 1, Peer: 2, Next: 1, Sent: []impl.Pending{sentAt(1, "x", 2, 1)}}
	taken := impl.Chan{Me: 2, Peer: 1, Got: 1, Owed: []int{1}, Out: []string{"x"}}
	events := []impl.Turn{sendBy(0), twiceAt(0), takeAt(0), takeAt(0)}
	checkRun(t, []string{"x"}, nil, events[:2], impl.Talk{Ends: []impl.Chan{sender, {Me: 2, Peer: 1}}, Now: 6, Net: []impl.Packet{p, p}}, true)
	checkRun(t, []string{"x"}, nil, events[:3], impl.Talk{Ends: []impl.Chan{sender, taken}, Now: 9, Net: []impl.Packet{p}}, true)
	checkRun(t, []string{"x"}, nil, events, impl.Talk{Ends: []impl.Chan{sender, taken}, Now: 12}, true)
	for copies := range mostTurns - 1 {
		events := append([]impl.Turn{sendBy(0)}, slices.Repeat([]impl.Turn{twiceAt(copies)}, copies)...)
		want := impl.Talk{Ends: []impl.Chan{sender, {Me: 2, Peer: 1}}, Now: 3 * len(events), Net: slices.Repeat([]impl.Packet{p}, copies+1)}
		checkRun(t, []string{"x"}, nil, events, want, true)
		settled := impl.Settle(want, 4)
		checkSettle(t, want, 4, settleLike(want, 4))
		checkAllCame(t, settled, []string{"x"}, nil)
	}
}

func TestAnAckToldTwiceSharesNothing(t *testing.T) {
	a, b := namedTexts("a", 4), namedTexts("b", 1)
	events := []impl.Turn{sendBy(0), takeAt(0), takeAt(0), takeAt(0), sendBy(1), twiceAt(1), twiceAt(1), twiceAt(2)}
	want := checkRunLike(t, a, b, events)
	back := packetOf(opControl, 0, 2, 1, 1, []int{1, 2, 3}, "b1")
	if len(want.Net) != 5 || !samePacket(want.Net[1], back) || !samePacket(want.Net[4], back) {
		t.Fatalf("on the Net is %v", want.Net)
	}
	got, _ := impl.RunTalk(a, b, events)
	for place := 1; place < 5; place++ {
		got.Net[place].Acks[0] = 50 + place
	}
	for place := 1; place < 5; place++ {
		if got.Net[place].Acks[0] != 50+place {
			t.Errorf("the packet at %d has the Acks of another one", place)
		}
	}
	checkSettleLike(t, want, 0)
	checkSettleLike(t, want, 1)
}

// What is lost goes out again when it is due: 2 to its tries behind the last.
func TestALostPacketIsSentAgainWhenItIsDue(t *testing.T) {
	p := packetOf(opControl, 0, 1, 2, 1, nil, "x")
	var events []impl.Turn
	tries, due := 0, 0
	for len(events) < mostTurns {
		now := 3 * len(events)
		want := impl.Talk{Ends: []impl.Chan{{Me: 1, Peer: 2}, {Me: 2, Peer: 1}}, Now: now + 3}
		if len(events)%2 == 1 {
			events = append(events, loseAt(0))
		} else {
			events = append(events, sendBy(0))
			if due <= now && tries < maxTries {
				tries++
				due = now + []int{0, 2, 4, 8, 16, 32, 64, 128, 256}[tries]
				want.Net = []impl.Packet{p}
			}
		}
		want.Ends[0].Next, want.Ends[0].Sent = 1, []impl.Pending{sentAt(1, "x", due, tries)}
		checkRun(t, []string{"x"}, nil, events, want, true)
	}
	for size := range events {
		talk, _ := impl.RunTalk([]string{"x"}, nil, events[:size])
		settled := impl.Settle(talk, 10)
		if sent := talk.Ends[0].Sent; len(talk.Net) > 0 || len(sent) == 0 || sent[0].Tries < maxTries {
			checkAllCame(t, settled, []string{"x"}, nil)
		} else if len(settled.Ends[1].Out) > 0 {
			t.Errorf("of %v no try is left, but it came: %v", sent, settled)
		}
	}
	if tries != maxTries {
		t.Errorf("%d tries are in so many events", tries)
	}
}

// untilUsedUp sends just when the packet of a Num is due, until its tries are
// used up; between these it has the event done that is told to it.
func untilUsedUp(t *testing.T, a, b []string, events []impl.Turn, end, num int, between impl.Turn) []impl.Turn {
	t.Helper()
	for {
		talk, right := runLike(a, b, events)
		place := slices.IndexFunc(talk.Ends[end].Sent, func(one impl.Pending) bool { return one.Num == num })
		if !right || place < 0 || len(events) > mostTurns {
			t.Fatalf("%v come to %v", events, talk)
		}
		one := talk.Ends[end].Sent[place]
		if one.Tries == maxTries {
			return events
		}
		if one.Due <= talk.Now {
			events = append(events, sendBy(end))
		} else {
			events = append(events, between)
		}
	}
}

// fillUp has an event done as often as events are left.
func fillUp(events []impl.Turn, e impl.Turn) []impl.Turn {
	return append(slices.Clone(events), slices.Repeat([]impl.Turn{e}, mostTurns-len(events))...)
}

func TestTriesThatAreUsedUp(t *testing.T) {
	for _, all := range []int{1, 3, 4, 5, 20} {
		a, b := namedTexts("a", all), namedTexts("b", 3)
		events := untilUsedUp(t, a, b, []impl.Turn{sendBy(0)}, 0, 1, loseAt(0))
		events = fillUp(events, loseAt(0))
		talk := checkRunLike(t, a, b, events)
		if len(talk.Net) > 0 {
			t.Fatalf("%v is on the Net", talk.Net)
		}
		for _, rounds := range roundsOfNote() {
			settled := checkSettleLike(t, talk, rounds)
			checkPromise(t, settled, a, b)
			if rounds < 4 {
				continue
			}
			if !slices.Equal(settled.Ends[0].Out, b) || len(settled.Ends[1].Sent) > 0 {
				t.Errorf("what was not lost did not come: %v", settled)
			}
			left := settled.Ends[0]
			if len(settled.Ends[1].Out) > 0 || len(left.Sent) != min(all, chanWindow) || len(left.Queue) != all-len(left.Sent) || left.Sent[0].Tries != maxTries {
				t.Errorf("what was lost %d times came: %v", maxTries, settled)
			}
		}
	}
}

// One text whose tries are used up holds all behind it back.
func TestATextThatNeverComesHoldsOthersBack(t *testing.T) {
	a := namedTexts("a", 20)
	for lost := 1; lost <= chanWindow; lost++ {
		begin := []impl.Turn{sendBy(0)}
		for place := range chanWindow {
			if place+1 == lost {
				begin = append(begin, loseAt(0))
			} else {
				begin = append(begin, takeAt(0))
			}
		}
		begin = append(begin, sendBy(1), takeAt(0))
		talk := checkRunLike(t, a, nil, begin)
		if sent := talk.Ends[0].Sent; len(sent) != 1 || sent[0].Num != lost {
			t.Fatalf("%v is Sent; want %d alone", sent, lost)
		}
		events := fillUp(untilUsedUp(t, a, nil, begin, 0, lost, loseAt(0)), loseAt(0))
		talk = checkRunLike(t, a, nil, events)
		settled := checkSettleLike(t, talk, mostRounds)
		checkPromise(t, settled, a, nil)
		if got := settled.Ends[1]; !slices.Equal(got.Out, a[:lost-1]) || settled.Ends[0].Sent[0].Num != lost || settled.Ends[0].Sent[0].Tries != maxTries {
			t.Errorf("%q came out, though %d never comes: %v", got.Out, lost, settled.Ends[0])
		}
	}
}

// Owed has room for four. What comes when it is full is not acknowledged, and
// if that is so at each try, it stays Sent, and what is beyond the window from
// it on waits; so say the words of chapter 13, though nothing is lost here.
func TestTriesUsedUpThoughNothingIsLost(t *testing.T) {
	a := namedTexts("a", 20)
	begin := []impl.Turn{sendBy(0), twiceAt(0), takeAt(0), sendBy(1), takeAt(4), sendBy(0)}
	events := fillUp(untilUsedUp(t, a, nil, begin, 0, 5, takeAt(0)), takeAt(0))
	talk := checkRunLike(t, a, nil, events)
	if len(talk.Net) > 0 || !slices.Equal(talk.Ends[1].Owed, []int{2, 3, 4, 1}) || !slices.Equal(talk.Ends[1].Out, a[:5]) {
		t.Fatalf("the talk is %v", talk)
	}
	settled := checkSettleLike(t, talk, mostRounds)
	checkPromise(t, settled, a, nil)
	want := impl.Talk{Ends: []impl.Chan{
		{Me: 1, Peer: 2, Next: 8, Queue: a[8:], Sent: []impl.Pending{talk.Ends[0].Sent[3]}},
		{Me: 2, Peer: 1, Got: 8, Out: a[:8]},
	}, Now: 60300}
	checkSettle(t, talk, mostRounds, want)
}

func TestTextsThatCannotBePushed(t *testing.T) {
	long := longest() + "l"
	for _, row := range [][2][]string{
		{{long}, nil},
		{{"a", long, "b"}, nil},
		{{long, "a", "b", long}, {long, long}},
		{{"a", long, "b", strings.Repeat("x", 20000), "c"}, {"", long, longest()}},
		{slices.Repeat([]string{long}, mostTexts), slices.Repeat([]string{longest()}, mostTexts)},
	} {
		checkRunLike(t, row[0], row[1], nil)
		talk := checkRunLike(t, row[0], row[1], []impl.Turn{sendBy(0), sendBy(1), takeAt(1)})
		checkAllCame(t, checkSettleLike(t, talk, 20), row[0], row[1])
	}
	want := impl.Talk{Ends: []impl.Chan{{Me: 1, Peer: 2, Queue: []string{"a", "b"}}, {Me: 2, Peer: 1, Queue: []string{longest()}}}}
	checkRun(t, []string{"a", long, "b"}, []string{longest(), long}, nil, want, true)
	checkNoRun(t, slices.Repeat([]string{long}, mostTexts+1), nil, nil)
	checkNoRun(t, nil, slices.Repeat([]string{long}, mostTexts+1), nil)
}

func TestTextsOfEverySizeInATalk(t *testing.T) {
	for size := range maxBody + 3 {
		a, b := []string{"ahead", drawnText(int64(181+size), size), "behind"}, []string{drawnText(int64(381+size), size)}
		talk := checkRunLike(t, a, b, []impl.Turn{sendBy(1), sendBy(0), takeAt(2), twiceAt(1)})
		checkAllCame(t, checkSettleLike(t, talk, 10), a, b)
	}
}

func TestHowManyTextsATalkHas(t *testing.T) {
	for size := range mostTexts + 5 {
		for _, other := range []int{0, 1, mostTexts, mostTexts + 1, 31} {
			for _, events := range [][]impl.Turn{nil, {sendBy(0), takeAt(2), sendBy(1)}} {
				a, b := namedTexts("a", size), namedTexts("b", other)
				right := size <= mostTexts && other <= mostTexts
				for _, row := range [][2][]string{{a, b}, {b, a}} {
					want, ok := runLike(row[0], row[1], events)
					if ok != right {
						t.Fatalf("%d and %d texts are right: %v", size, other, ok)
					}
					checkRun(t, row[0], row[1], events, want, right)
				}
			}
		}
	}
	for _, size := range []int{21, 22, 30, 31, 100, 1000} {
		many := slices.Repeat([]string{""}, size)
		checkNoRun(t, many, nil, nil)
		checkNoRun(t, nil, many, nil)
		checkNoRun(t, many, many, nil)
	}
}

func TestHowManyEventsATalkHas(t *testing.T) {
	for _, e := range []impl.Turn{sendBy(0), sendBy(1), takeAt(0), loseAt(3), twiceAt(7)} {
		for size := mostTurns - 2; size <= mostTurns+3; size++ {
			events := slices.Repeat([]impl.Turn{e}, size)
			want, right := runLike([]string{"a"}, []string{"b"}, events)
			if right != (size <= mostTurns) || right && want.Now != 3*size {
				t.Fatalf("%d events: %v, %v", size, want, right)
			}
			checkRun(t, []string{"a"}, []string{"b"}, events, want, right)
		}
		checkNoRun(t, nil, nil, slices.Repeat([]impl.Turn{e}, 5000))
	}
	checkNoRun(t, namedTexts("a", mostTexts+1), namedTexts("b", mostTexts+1), slices.Repeat([]impl.Turn{{}}, mostTurns+1))
}

func wrongTurns() []impl.Turn {
	var list []impl.Turn
	for _, kind := range []int{0, 5, 6, -1, -4, 257, 1<<32 + 1, math.MinInt, math.MinInt + 1, math.MaxInt} {
		list = append(list, impl.Turn{Kind: kind}, impl.Turn{Kind: kind, End: 1, At: 3})
	}
	for kind := turnSend; kind <= turnTwice; kind++ {
		for _, end := range []int{-1, 2, 3, -2, 256, 1 << 32, 1<<32 + 1, math.MinInt, math.MaxInt} {
			list = append(list, impl.Turn{Kind: kind, End: end}, impl.Turn{Kind: kind, End: end, At: 2})
		}
		for _, at := range []int{-1, -2, -4, -mostNum, math.MinInt, math.MinInt + 1} {
			list = append(list, impl.Turn{Kind: kind, At: at}, impl.Turn{Kind: kind, End: 1, At: at})
		}
	}
	return append(list, impl.Turn{Kind: -1, End: -1, At: -1}, impl.Turn{Kind: math.MaxInt, End: math.MaxInt, At: math.MaxInt})
}

func TestEventsThatAreNotRight(t *testing.T) {
	a, b := namedTexts("a", 3), namedTexts("b", 2)
	others := []impl.Turn{sendBy(0), sendBy(1), takeAt(1), twiceAt(0), loseAt(2), takeAt(0)}
	for _, wrong := range wrongTurns() {
		if impl.TurnOk(wrong) {
			t.Errorf("%v is right", wrong)
		}
		checkNoRun(t, nil, nil, []impl.Turn{wrong})
		for place := range len(others) + 1 {
			checkNoRun(t, a, b, slices.Insert(slices.Clone(others), place, wrong))
		}
		full := slices.Repeat([]impl.Turn{takeAt(0)}, mostTurns-1)
		checkNoRun(t, a, b, append(slices.Clone(full), wrong))
		checkNoRun(t, a, b, append([]impl.Turn{wrong}, full...))
	}
	checkRunLike(t, a, b, others)
}

func TestSettlingRoundByRound(t *testing.T) {
	talk, _ := impl.RunTalk([]string{"x"}, nil, []impl.Turn{sendBy(0)})
	sender, taker := impl.Chan{Me: 1, Peer: 2, Next: 1}, impl.Chan{Me: 2, Peer: 1, Got: 1, Owed: []int{1}, Out: []string{"x"}}
	sent := func(due, tries int) impl.Chan {
		return changed(sender, func(c *impl.Chan) { c.Sent = []impl.Pending{sentAt(1, "x", due, tries)} })
	}
	atRest := changed(taker, func(c *impl.Chan) { c.Owed = nil })
	checkSettle(t, talk, -1, impl.Talk{Ends: []impl.Chan{sent(2, 1), {Me: 2, Peer: 1}}, Now: 3, Net: []impl.Packet{packetOf(opControl, 0, 1, 2, 1, nil, "x")}})
	checkSettle(t, talk, 0, impl.Talk{Ends: []impl.Chan{sent(2, 1), {Me: 2, Peer: 1}}, Now: 3, Net: []impl.Packet{packetOf(opControl, 0, 1, 2, 1, nil, "x")}})
	checkSettle(t, talk, 1, impl.Talk{Ends: []impl.Chan{sent(7, 2), taker}, Now: 303})
	checkSettle(t, talk, 2, impl.Talk{Ends: []impl.Chan{sender, taker}, Now: 603})
	checkSettle(t, talk, 3, impl.Talk{Ends: []impl.Chan{sender, atRest}, Now: 903})
	checkSettle(t, talk, 4, impl.Talk{Ends: []impl.Chan{sender, atRest}, Now: 1203})
	for _, rounds := range []int{199, 200, 201, 202, math.MaxInt} {
		checkSettle(t, talk, rounds, impl.Talk{Ends: []impl.Chan{sender, atRest}, Now: 3 + 300*min(rounds, 200)})
	}
}

// As many rounds at once are as many rounds one by one, up to 200.
func TestRoundsAddUp(t *testing.T) {
	a, b := namedTexts("a", mostTexts), namedTexts("b", 9)
	talk, _ := runLike(a, b, []impl.Turn{sendBy(0), loseAt(1), sendBy(1), takeAt(2), twiceAt(0), takeAt(9)})
	step := talk
	for rounds := range mostRounds + 1 {
		checkSettle(t, talk, rounds, step)
		checkPromise(t, step, a, b)
		step = impl.Settle(step, 1)
	}
	last := impl.Settle(talk, mostRounds)
	for _, rounds := range []int{201, 202, 400, 1 << 32, math.MaxInt} {
		checkSettle(t, talk, rounds, last)
	}
	for _, rounds := range []int{0, -1, -200, math.MinInt} {
		checkSettle(t, talk, rounds, talk)
	}
	checkAllCame(t, last, a, b)
}

// All that is on the Net comes in order: a later one finds what an earlier
// one left, and a text comes as the first of its packets has it.
func TestTheNetComesInOrder(t *testing.T) {
	talk := impl.Talk{Ends: []impl.Chan{{Me: 1, Peer: 2}, {Me: 2, Peer: 1}}, Net: []impl.Packet{
		control(5, nil, "far"), control(2, nil, "second"), control(1, nil, "first"), control(1, nil, "other"), control(5, nil, "fifth"), control(3, nil, "third"), control(4, nil, "fourth"),
	}}
	want := impl.Talk{Ends: []impl.Chan{
		{Me: 1, Peer: 2, Got: 5, Owed: []int{2, 1, 5, 3}, Out: []string{"first", "second", "third", "fourth", "fifth"}},
		{Me: 2, Peer: 1},
	}, Now: 300}
	checkSettle(t, talk, 1, want)
	turned := cloneTalk(talk)
	slices.Reverse(turned.Net)
	want.Ends[0] = impl.Chan{Me: 1, Peer: 2, Got: 5, Owed: []int{4, 3, 1, 2}, Out: []string{"other", "second", "third", "fourth", "far"}}
	checkSettle(t, turned, 1, want)
}

// Both ends send ahead of what is on the Net already: its texts are owed from
// the next round on.
func TestBothEndsSendAheadOfWhatIsOnTheNet(t *testing.T) {
	talk := impl.Talk{
		Ends: []impl.Chan{{Me: 7, Peer: 9, Queue: []string{"x"}}, {Me: 9, Peer: 7, Queue: []string{"y"}, Owed: []int{3}}},
		Now:  50,
		Net:  []impl.Packet{packetOf(opControl, 0, 7, 9, 2, nil, "early"), packetOf(opControl, 0, 9, 7, 2, nil, "late")},
	}
	want := impl.Talk{Ends: []impl.Chan{
		{Me: 7, Peer: 9, Next: 1, Sent: []impl.Pending{sentAt(1, "x", 52, 1)}, Got: 2, Owed: []int{2, 1}, Out: []string{"y", "late"}},
		{Me: 9, Peer: 7, Next: 1, Sent: []impl.Pending{sentAt(1, "y", 52, 1)}, Got: 2, Owed: []int{2, 1}, Out: []string{"x", "early"}},
	}, Now: 350}
	checkSettle(t, talk, 1, want)
	for rounds := range 6 {
		checkSettleLike(t, talk, rounds)
	}
}

func TestWhatComesToNoEndIsGone(t *testing.T) {
	ends := []impl.Chan{{Me: 1, Peer: 2, Next: 1, Sent: sentOf(1)}, {Me: 2, Peer: 1}}
	var net []impl.Packet
	for _, to := range append(endsOutside(), 3, 50, 99) {
		net = append(net, packetOf(opControl, 0, 1, to, 1, []int{1}, "x"), packetOf(opAck, 0, 2, to, 0, []int{1}, ""))
	}
	for _, from := range append(endsOutside(), 3, 50, 99) {
		net = append(net, packetOf(opControl, 0, from, 1, 1, []int{1}, "x"), packetOf(opControl, 0, from, 2, 1, []int{1}, "x"))
	}
	for _, op := range append(opsOutside(), opData) {
		net = append(net, packetOf(op, 0, 2, 1, 1, []int{1}, "x"), packetOf(op, 0, 1, 2, 1, nil, "x"))
	}
	net = append(net, impl.Packet{}, control(5, []int{1}, "x"), control(1, []int{1}, longest()+"l"), control(1, []int{1, 0}, "x"), control(1, []int{1, 2, 3, 4, 5}, "x"))
	talk := impl.Talk{Ends: ends, Net: net}
	checkSettle(t, talk, 0, talk)
	checkSettle(t, talk, 1, impl.Talk{Ends: ends, Now: 300})
	checkSettle(t, talk, 3, impl.Talk{Ends: ends, Now: 900})
}

func TestTalksWhoseEndsAreNotTwo(t *testing.T) {
	end, other := impl.Chan{Me: 1, Peer: 2, Queue: []string{"x"}, Owed: []int{1}}, impl.Chan{Me: 2, Peer: 1, Queue: []string{"y"}}
	net := []impl.Packet{control(1, []int{1}, "x"), packetOf(opAck, 0, 1, 2, 0, []int{1}, "")}
	for _, ends := range [][]impl.Chan{nil, {}, {end}, {{}}, {end, other, end}, {end, other, {Me: 3, Peer: 1}}, {{}, {}, {}}, {end, other, end, other}, slices.Repeat([]impl.Chan{end}, 100)} {
		for _, rounds := range roundsOfNote() {
			for _, now := range []int{math.MinInt, -1, 0, 3, mostNum, math.MaxInt} {
				checkSettle(t, impl.Talk{Ends: ends, Now: now, Net: net}, rounds, impl.Talk{})
				checkSettle(t, impl.Talk{Ends: ends, Now: now}, rounds, impl.Talk{})
			}
		}
	}
	checkSettle(t, impl.Talk{}, 1, impl.Talk{})
}

// An end that is not right stays as it is; what comes to it is gone.
func TestTalksWhoseEndsAreNotRight(t *testing.T) {
	right := impl.Chan{Me: 2, Peer: 1, Queue: []string{"y"}, Owed: []int{1}}
	for _, wrong := range wrongChans() {
		net := []impl.Packet{packetOf(opControl, 0, wrong.Peer, wrong.Me, 1, []int{6}, "x"), packetOf(opControl, 0, 1, 2, 1, nil, "z")}
		for _, ends := range [][]impl.Chan{{wrong, right}, {right, wrong}, {wrong, wrong}} {
			talk := impl.Talk{Ends: ends, Now: 5, Net: net}
			checkSettle(t, talk, 0, talk)
			for _, rounds := range []int{1, 3} {
				settled := checkSettleLike(t, talk, rounds)
				for place, end := range ends {
					if !impl.ChanOk(end) && !sameChan(settled.Ends[place], end) {
						t.Errorf("an end that is not right, %v, came to %v", end, settled.Ends[place])
					}
				}
				if settled.Now != 5+300*rounds || len(settled.Net) > 0 {
					t.Errorf("%d rounds of %v come to %v", rounds, talk, settled)
				}
			}
		}
	}
	both := impl.Talk{Ends: []impl.Chan{{}, {}}, Net: []impl.Packet{{}, control(1, nil, "x")}}
	checkSettle(t, both, 1, impl.Talk{Ends: []impl.Chan{{}, {}}, Now: 300})
	checkSettle(t, both, 201, impl.Talk{Ends: []impl.Chan{{}, {}}, Now: 60000})
	one := impl.Talk{Ends: []impl.Chan{{Me: 100, Peer: 2, Queue: []string{"x"}}, {Me: 2, Peer: 100, Queue: []string{"y"}}}, Net: []impl.Packet{packetOf(opControl, 0, 2, 100, 1, nil, "x")}}
	checkSettle(t, one, 1, impl.Talk{Ends: one.Ends, Now: 300})
}

// Ends may be anybody; of two with one Me the first one has what comes.
func TestEndsOfOtherTalks(t *testing.T) {
	for _, row := range [][4]int{{1, 2, 2, 1}, {2, 1, 1, 2}, {99, 1, 1, 99}, {7, 7, 7, 7}, {1, 2, 1, 2}, {1, 2, 3, 1}, {1, 2, 2, 3}, {5, 6, 7, 8}} {
		talk := impl.Talk{Ends: []impl.Chan{{Me: row[0], Peer: row[1], Queue: namedTexts("a", 6)}, {Me: row[2], Peer: row[3], Queue: namedTexts("b", 5)}}, Now: 9}
		for _, rounds := range []int{0, 1, 2, 3, 10, 200} {
			checkSettleLike(t, talk, rounds)
		}
	}
	shared := impl.Talk{Ends: []impl.Chan{{Me: 1, Peer: 2}, {Me: 3, Peer: 2}}, Net: []impl.Packet{packetOf(opControl, 0, 2, 3, 1, nil, "x")}}
	checkSettle(t, shared, 1, impl.Talk{Ends: []impl.Chan{{Me: 1, Peer: 2}, {Me: 3, Peer: 2, Got: 1, Owed: []int{1}, Out: []string{"x"}}}, Now: 300})
	alone := impl.Talk{Ends: []impl.Chan{{Me: 7, Peer: 7}, {Me: 7, Peer: 7}}, Net: []impl.Packet{packetOf(opControl, 0, 7, 7, 1, nil, "x")}}
	checkSettle(t, alone, 1, impl.Talk{Ends: []impl.Chan{{Me: 7, Peer: 7, Got: 1, Owed: []int{1}, Out: []string{"x"}}, {Me: 7, Peer: 7}}, Now: 300})
}

func TestRightEndsOfEachKindSettle(t *testing.T) {
	for _, c := range chansOfNote() {
		other := impl.Chan{Me: c.Peer, Peer: c.Me, Queue: namedTexts("b", 3)}
		net := []impl.Packet{packetOf(opControl, 0, c.Peer, c.Me, c.Got+1, []int{1, 4, 7, 1000}, "x"), packetOf(opAck, 0, c.Me, c.Peer, 0, []int{1}, "")}
		for _, rounds := range []int{0, 1, 3} {
			checkSettleLike(t, impl.Talk{Ends: []impl.Chan{c, other}, Now: 5, Net: net}, rounds)
			checkSettleLike(t, impl.Talk{Ends: []impl.Chan{other, c}, Now: 5, Net: net}, rounds)
		}
	}
}

// Outside of the times at which Send takes one nothing is sent; what is on the
// Net comes at every time.
func TestSettlingAtTimesOfNote(t *testing.T) {
	ends := []impl.Chan{{Me: 1, Peer: 2, Queue: []string{"x"}, Owed: []int{1}}, {Me: 2, Peer: 1}}
	net := []impl.Packet{control(1, nil, "n")}
	for _, now := range append(sendTimesOutside(), -301, -300, -299, 0, 1, mostSendAt-300, mostSendAt-299, mostSendAt-1, mostSendAt) {
		talk := impl.Talk{Ends: ends, Now: now, Net: net}
		for _, rounds := range []int{0, 1, 2, 3, 201} {
			settled := checkSettleLike(t, talk, rounds)
			if rounds > 0 && len(settled.Ends[0].Out) != 1 {
				t.Errorf("at %d nothing came: %v", now, settled)
			}
		}
	}
	for _, now := range []int{-1, mostSendAt + 1, math.MinInt, math.MaxInt - 300} {
		want := impl.Talk{Ends: []impl.Chan{{Me: 1, Peer: 2, Queue: []string{"x"}, Owed: []int{1}, Got: 1, Out: []string{"n"}}, {Me: 2, Peer: 1}}, Now: now + 300}
		checkSettle(t, impl.Talk{Ends: ends, Now: now, Net: net}, 1, want)
	}
}

func checkBegins(t *testing.T, all, some []string, want bool) {
	t.Helper()
	lentAll, roomAll := inRoom(all, spareText)
	lentSome, roomSome := inRoom(some, spareText)
	wereAll, wereSome := slices.Clone(roomAll), slices.Clone(roomSome)
	if got := impl.BeginsWith(lentAll, lentSome); got != want {
		t.Errorf("BeginsWith(%q, %q) = %v; want %v", all, some, got, want)
	}
	if !slices.Equal(roomAll, wereAll) || !slices.Equal(roomSome, wereSome) {
		t.Errorf("BeginsWith wrote into its arguments: %q, %q", roomAll, roomSome)
	}
}

func TestBeginnings(t *testing.T) {
	all := []string{"a", "", "b\x00", "a"}
	for size := range len(all) + 1 {
		checkBegins(t, all, all[:size], true)
		checkBegins(t, all[:size], all, size == len(all))
		checkBegins(t, all, append(slices.Clone(all[:size]), "other"), false)
		checkBegins(t, all, append([]string{"other"}, all[:size]...), false)
	}
	checkBegins(t, nil, nil, true)
	checkBegins(t, []string{}, nil, true)
	checkBegins(t, nil, []string{}, true)
	checkBegins(t, all, nil, true)
	checkBegins(t, nil, []string{""}, false)
	checkBegins(t, []string{""}, []string{"", ""}, false)
	checkBegins(t, all, append(slices.Clone(all), ""), false)
	checkBegins(t, all, append(slices.Clone(all), spareText), false)
	checkBegins(t, all, []string{"a", "", "b"}, false)
	checkBegins(t, all, []string{"a", "", "b\x00\x00"}, false)
	checkBegins(t, []string{"ab"}, []string{"a"}, false)
	checkBegins(t, []string{"a", "b"}, []string{"ab"}, false)
	checkBegins(t, []string{"A"}, []string{"a"}, false)
	checkBegins(t, []string{"\xff"}, []string{"\xfe"}, false)
	checkBegins(t, namedTexts("t", 5000), namedTexts("t", 4999), true)
	checkBegins(t, namedTexts("t", 4999), namedTexts("t", 5000), false)
}

// Each two lists of up to three of three texts.
func TestBeginningsOfEachSmallList(t *testing.T) {
	lists := [][]string{nil}
	for begin := 0; len(lists[len(lists)-1]) < 3 || begin < len(lists) && len(lists[begin]) < 3; begin++ {
		for _, text := range []string{"", "a", "b"} {
			lists = append(lists, append(slices.Clone(lists[begin]), text))
		}
	}
	if len(lists) != 1+3+9+27 {
		t.Fatalf("there are %d lists", len(lists))
	}
	begins := 0
	for _, all := range lists {
		for _, some := range lists {
			want := isBeginningLike(all, some)
			checkBegins(t, all, some, want)
			if want {
				begins++
			}
		}
	}
	if begins != 1*1+3*2+9*3+27*4 {
		t.Errorf("%d of them begin with the other one", begins)
	}
}

// drawnTurns are of the kinds that are told, each as often as it stands there.
func drawnTurns(draw *rand.Rand, size int, kinds ...int) []impl.Turn {
	var events []impl.Turn
	for range size {
		e := impl.Turn{Kind: kinds[draw.Intn(len(kinds))], End: draw.Intn(2), At: draw.Intn(12)}
		if draw.Intn(20) == 0 {
			e.At = math.MaxInt - draw.Intn(12)
		}
		events = append(events, e)
	}
	return events
}

func drawnTexts(draw *rand.Rand, name string) []string {
	var list []string
	for place := range draw.Intn(mostTexts + 1) {
		switch draw.Intn(8) {
		case 0:
			list = append(list, drawnBody(draw))
		case 1:
			list = append(list, name)
		default:
			list = append(list, name+impl.Decimal(place))
		}
	}
	return list
}

func mixesOfTurns() [][]int {
	return [][]int{
		{turnSend, turnTake, turnLose, turnTwice},
		{turnSend, turnTake, turnTake, turnTake, turnLose, turnTwice},
		{turnSend, turnSend, turnTake, turnTake, turnTwice, turnTwice, turnLose},
		{turnSend, turnTake, turnLose, turnLose},
		{turnSend, turnTake, turnTake, turnTwice},
		{turnSend, turnTwice, turnTwice, turnTake},
		{turnSend, turnTake},
	}
}

func TestDrawnTalksAtEveryStep(t *testing.T) {
	draw := rand.New(rand.NewSource(182))
	for talk := range 42 {
		a, b := drawnTexts(draw, "a"), drawnTexts(draw, "b")
		mixes := mixesOfTurns()
		events := drawnTurns(draw, mostTurns, mixes[talk%len(mixes)]...)
		want, out := newTalkLike(a, b), [2][]string{}
		for size := range mostTurns + 1 {
			checkRun(t, a, b, events[:size], want, true)
			for end := range 2 {
				if !isBeginningLike(want.Ends[end].Out, out[end]) {
					t.Fatalf("%q came out, and then %q", out[end], want.Ends[end].Out)
				}
				out[end] = want.Ends[end].Out
			}
			if size < mostTurns {
				want = turnLike(want, events[size])
			}
		}
		settled := checkSettleLike(t, want, 1+draw.Intn(5))
		checkPromise(t, settled, a, b)
	}
}

// What is settled either all came, or there is a text whose tries are used up.
func TestDrawnTalksSettle(t *testing.T) {
	draw := rand.New(rand.NewSource(183))
	came, out, lost := 0, 0, 0
	for talk := range 1400 {
		a, b := drawnTexts(draw, "a"), drawnTexts(draw, "b")
		mixes := mixesOfTurns()
		events := drawnTurns(draw, draw.Intn(mostTurns+1), mixes[talk%len(mixes)]...)
		got, _ := impl.RunTalk(a, b, events)
		settled := impl.Settle(got, 60)
		checkPromise(t, settled, a, b)
		if !slices.ContainsFunc(events, func(e impl.Turn) bool { return e.Kind == turnLose }) {
			checkAllCame(t, settled, a, b)
			came++
		} else {
			lost++
		}
		put := newTalkLike(a, b)
		for end, c := range settled.Ends {
			usedUp := len(c.Sent) > 0 && !slices.ContainsFunc(c.Sent, func(one impl.Pending) bool { return one.Tries < maxTries })
			if other := settled.Ends[1-end]; !usedUp && (len(c.Sent) > 0 || !slices.Equal(other.Out, put.Ends[end].Queue)) {
				t.Fatalf("%v has tries left, but %q came out", c, other.Out)
			}
			out += len(c.Out)
		}
	}
	if came < 300 || lost < 300 || out < 5000 {
		t.Errorf("of only %d talks nothing was lost, of %d something, and %d texts came out", came, lost, out)
	}
}

// A packet may be lost and still be on the Net as its other copy: each first
// packet is told twice, and one of both is lost.
func TestOneOfTwoCopiesLost(t *testing.T) {
	a, b := namedTexts("a", 4), namedTexts("b", 3)
	for at := range 7 {
		events := []impl.Turn{sendBy(0), sendBy(1), twiceAt(at), loseAt(at)}
		talk := checkRunLike(t, a, b, append(events, slices.Repeat([]impl.Turn{takeAt(0)}, 7)...))
		if len(talk.Net) > 0 || !slices.Equal(talk.Ends[0].Out, b) || !slices.Equal(talk.Ends[1].Out, a) {
			t.Errorf("the packet at %d is lost: %v", at, talk)
		}
		checkAllCame(t, checkSettleLike(t, talk, 5), a, b)
	}
}

func TestTwoAnswersOfATalkShareNothing(t *testing.T) {
	a, b := namedTexts("a", 9), namedTexts("b", 8)
	events := []impl.Turn{sendBy(0), sendBy(1), takeAt(0), takeAt(5), takeAt(1), sendBy(1), sendBy(0), twiceAt(6), twiceAt(7), twiceAt(0)}
	talk, _ := impl.RunTalk(a, b, events)
	lists := listsOfTalk(talk, false)
	for range 2 {
		again, _ := impl.RunTalk(a, b, events)
		lists = append(lists, listsOfTalk(again, false)...)
		for _, rounds := range []int{-1, 0, 1, 5} {
			lists = append(lists, listsOfTalk(impl.Settle(talk, rounds), false)...)
		}
	}
	checkDisjoint(t, "a talk", lists, false)
}

func TestRefusalsOfATalkLeaveNothingBehind(t *testing.T) {
	a, b := namedTexts("a", 5), namedTexts("b", 2)
	events := []impl.Turn{sendBy(0), twiceAt(1), takeAt(2), sendBy(1), takeAt(3)}
	want, _ := runLike(a, b, events)
	for range 3 {
		checkNoRun(t, namedTexts("a", 21), b, events)
		checkNoRun(t, a, b, append(slices.Clone(events), impl.Turn{Kind: 5}))
		checkNoRun(t, a, b, slices.Repeat(events, 21))
		checkSettle(t, impl.Talk{Ends: want.Ends[:1], Net: want.Net}, 3, impl.Talk{})
		checkRun(t, a, b, events, want, true)
		checkSettleLike(t, want, 3)
	}
}

func TestManyTalkAtOnce(t *testing.T) {
	a, b := namedTexts("a", 12), namedTexts("b", 7)
	events := drawnTurns(rand.New(rand.NewSource(184)), 60, mixesOfTurns()[1]...)
	talk, _ := runLike(a, b, events)
	settled := settleLike(talk, 20)
	var all sync.WaitGroup
	for range 16 {
		all.Go(func() {
			for range 10 {
				got, ok := impl.RunTalk(a, b, events)
				if after := impl.Settle(talk, 20); !ok || !sameTalk(got, talk) || !sameTalk(after, settled) {
					t.Errorf("a talk is %v and settles to %v; want %v and %v", got, after, talk, settled)
					return
				}
			}
		})
	}
	all.Wait()
}

func TestATalkLeavesNobodyBehind(t *testing.T) {
	before := runtime.NumGoroutine()
	for range 100 {
		talk, _ := impl.RunTalk(namedTexts("a", 9), namedTexts("b", 9), slices.Repeat([]impl.Turn{sendBy(0), sendBy(1), takeAt(1), loseAt(2), twiceAt(0)}, 20))
		impl.Settle(talk, 20)
	}
	checkNobodyIsLeft(t, before)
}
