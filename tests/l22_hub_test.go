package tests

import (
	"math"
	"math/rand"
	"slices"
	"strings"
	"sync"
	"testing"

	"loop.example/g00193/impl"
)

const (
	maxUsers    = 3
	hubId       = 99
	lastUser    = 98
	sizeOfPiece = 60
	onePiece    = 52
)

var (
	spareUser = impl.User{Id: 77, Addr: 77, Ids: 77}

	// hubNet has the addresses 257 to 510 to give.
	hubNet = impl.Prefix{Addr: 256, Len: 24}
)

func userOf(id, addr int, s impl.Slots, h impl.Shelf, ids int) impl.User {
	return impl.User{Id: id, Addr: addr, Slots: s, Shelf: h, Ids: ids}
}

func hubOf(p impl.Pool, routes []impl.Route, users ...impl.User) impl.Hub {
	return impl.Hub{Pool: p, Routes: routes, Users: users}
}

func sameUser(a, b impl.User) bool {
	return a.Id == b.Id && a.Addr == b.Addr && sameSlots(a.Slots, b.Slots) && sameShelf(a.Shelf, b.Shelf) && a.Ids == b.Ids
}

func sameHub(a, b impl.Hub) bool {
	return samePool(a.Pool, b.Pool) && slices.Equal(a.Routes, b.Routes) && slices.EqualFunc(a.Users, b.Users, sameUser)
}

func cloneUser(u impl.User) impl.User {
	return userOf(u.Id, u.Addr, cloneSlots(u.Slots), cloneShelf(u.Shelf), u.Ids)
}

func cloneHub(h impl.Hub) impl.Hub {
	var users []impl.User
	for _, u := range h.Users {
		users = append(users, cloneUser(u))
	}
	return hubOf(clonePool(h.Pool), slices.Clone(h.Routes), users...)
}

func changedUser(u impl.User, change func(*impl.User)) impl.User {
	next := cloneUser(u)
	change(&next)
	return next
}

func changedHub(h impl.Hub, change func(*impl.Hub)) impl.Hub {
	next := cloneHub(h)
	change(&next)
	return next
}

func hasUserLike(h impl.Hub, id int) bool {
	return slices.ContainsFunc(h.Users, func(u impl.User) bool { return u.Id == id })
}

// hubRightLike is what must be so of a hub, all over it.
func hubRightLike(h impl.Hub) bool {
	last := 0
	for _, u := range h.Users {
		if u.Id <= last || u.Id > lastUser || u.Ids < 0 || u.Ids > mostNum || holderLike(h.Pool, u.Addr) != u.Id {
			return false
		}
		if !slotsRightLike(u.Slots) || !shelfRightLike(u.Shelf) {
			return false
		}
		last = u.Id
	}
	for _, r := range h.Routes {
		if !hasUserLike(h, r.To) {
			return false
		}
	}
	return len(h.Users) <= maxUsers && poolRightLike(h.Pool) && routesRightLike(h.Routes)
}

// joinLike does all of it, and only then asks what may be refused.
func joinLike(h impl.Hub, id int, seed string, now int) (impl.Hub, impl.User, bool) {
	pool, addr, granted := grantLike(h.Pool, id, now)
	routes, put := putLike(h.Routes, routeAt(addr, 32, id))
	own, behind := pairLike(seed)
	users := slices.Clone(h.Users)
	at := 0
	for at < len(users) && users[at].Id <= id {
		at++
	}
	users = slices.Insert(users, at, userOf(id, addr, behind, impl.Shelf{}, 0))
	if id < 1 || id > lastUser || hasUserLike(h, id) || len(users) > maxUsers || !granted || !put {
		return h, impl.User{}, false
	}
	return hubOf(pool, routes, users...), userOf(id, addr, own, impl.Shelf{}, 0), true
}

func leaveLike(h impl.Hub, id int) (impl.Hub, bool) {
	var users []impl.User
	for _, u := range h.Users {
		if u.Id != id {
			users = append(users, u)
		}
	}
	var leases []impl.Lease
	for _, l := range h.Pool.Leases {
		if l.Who != id {
			leases = append(leases, l)
		}
	}
	if len(users) == len(h.Users) {
		return h, false
	}
	return hubOf(withLeases(h.Pool, leases), dropToLike(h.Routes, id), users...), true
}

func addNetLike(h impl.Hub, id int, p impl.Prefix) (impl.Hub, bool) {
	routes, put := putLike(h.Routes, impl.Route{Prefix: p, To: id})
	if !put || !hasUserLike(h, id) {
		return h, false
	}
	return hubOf(h.Pool, routes, h.Users...), true
}

// sendInnerLike divides down, so that nothing is below 0.
func sendInnerLike(u impl.User, from, to int, x impl.Inner) (impl.User, []impl.Packet, bool) {
	next := cloneUser(u)
	parts, ok := splitLike((u.Ids%256+256)%256, innerTextLike(x), sizeOfPiece)
	ok = ok && innerRightLike(x)
	var packets []impl.Packet
	for _, part := range parts {
		s, p, sealed := sealDataLike(next.Slots, from, to, part)
		ok = ok && sealed
		next.Slots, packets = s, append(packets, p)
	}
	if !ok {
		return u, nil, false
	}
	next.Ids++
	return next, packets, true
}

func takeDataLike(u impl.User, p impl.Packet, now int) (impl.User, impl.Inner, bool) {
	s, part, opened := openDataLike(u.Slots, p, now)
	if !opened {
		return u, impl.Inner{}, false
	}
	h, text, whole := addPartLike(u.Shelf, p.From, part, now)
	x, read := readInnerLike(text)
	if !whole || !read {
		x = impl.Inner{}
	}
	return userOf(u.Id, u.Addr, s, h, u.Ids), x, whole && read
}

// lentUser is a user whose lists lie in greater rooms and whose texts in longer
// ones, and how these were.
type lentUser struct {
	u     impl.User
	slots lentSlots
	shelf lentShelf
}

func lendUser(u impl.User) lentUser {
	lent := lentUser{slots: lendSlots(u.Slots), shelf: lendShelf(u.Shelf)}
	lent.u = userOf(u.Id, u.Addr, lent.slots.s, lent.shelf.h, u.Ids)
	return lent
}

func (lent lentUser) checkUntouched(t *testing.T, what string) {
	t.Helper()
	lent.slots.checkUntouched(t, what)
	lent.shelf.checkUntouched(t, what)
}

func listsOfUser(u impl.User, given bool) []memory {
	return append(listsOfShelf(u.Shelf, given), seenOfSlots(u.Slots, given)...)
}

func textsOfUser(u impl.User) []string {
	return append(textsOfShelf(u.Shelf), keysOfSlots(u.Slots)...)
}

// fillUser writes into the whole of each list.
func fillUser(u impl.User) {
	fillShelf(u.Shelf)
	filled(u.Slots.Main.Seen, -3)
	filled(u.Slots.Lame.Seen, -4)
}

// checkAnswer looks at what every answer must be, whatever the chapter says,
// and writes into the whole of it.
func (lent lentUser) checkAnswer(t *testing.T, what string, got impl.User, x impl.Inner, packets []impl.Packet, given ...string) {
	t.Helper()
	lists := append(listsOfUser(lent.u, true), listsOfUser(got, false)...)
	lists = append(lists, memoryOf(packets, false, "the packets"))
	texts := append(textsOfUser(got), x.Text)
	for _, p := range packets {
		lists = append(lists, memoryOf(p.Acks, false, "Acks"))
		texts = append(texts, p.Body)
	}
	checkDisjoint(t, what, lists, false)
	checkOwnTexts(t, what, append(textsOfUser(lent.u), given...), texts...)
	if impl.SlotsOk(lent.u.Slots) && !impl.SlotsOk(got.Slots) || impl.ShelfOk(lent.u.Shelf) && !impl.ShelfOk(got.Shelf) {
		t.Errorf("%s: %#v was right; what came of it, %#v, is not", what, lent.u, got)
	}
	fillUser(got)
	filled(packets, packetOf(opAck, 0, 7, 7, 0, nil, ""))
	lent.checkUntouched(t, what)
}

// lentHub is a hub whose lists lie in greater rooms, and how these were.
type lentHub struct {
	h          impl.Hub
	pool       lentPool
	users      []lentUser
	userRoom   []impl.User
	usersWere  []impl.User
	routeRoom  []impl.Route
	routesWere []impl.Route
}

func lendHub(h impl.Hub) lentHub {
	lent := lentHub{pool: lend(h.Pool)}
	var users []impl.User
	for _, u := range h.Users {
		one := lendUser(u)
		lent.users, users = append(lent.users, one), append(users, one.u)
	}
	routes, routeRoom := inRoom(h.Routes, spareRoute)
	users, lent.userRoom = inRoom(users, spareUser)
	lent.h = hubOf(lent.pool.pool, routes, users...)
	lent.routeRoom, lent.routesWere, lent.usersWere = routeRoom, slices.Clone(routeRoom), slices.Clone(lent.userRoom)
	return lent
}

func (lent lentHub) checkUntouched(t *testing.T, what string) {
	t.Helper()
	lent.pool.checkUntouched(t, what)
	if !slices.Equal(lent.routeRoom, lent.routesWere) {
		t.Errorf("%s wrote into its argument: %v; want %v", what, lent.routeRoom, lent.routesWere)
	}
	if !slices.EqualFunc(lent.userRoom, lent.usersWere, sameUser) {
		t.Errorf("%s wrote into its argument: %#v; want %#v", what, lent.userRoom, lent.usersWere)
	}
	for _, u := range lent.users {
		u.checkUntouched(t, what)
	}
}

func listsOfHub(h impl.Hub, given bool) []memory {
	lists := []memory{
		memoryOf(h.Pool.Leases, given, "Leases"),
		memoryOf(h.Pool.Fixes, given, "Fixes"),
		memoryOf(h.Routes, given, "Routes"),
		memoryOf(h.Users, given, "Users"),
	}
	for _, u := range h.Users {
		lists = append(lists, listsOfUser(u, given)...)
	}
	return lists
}

func textsOfHub(h impl.Hub) []string {
	var texts []string
	for _, u := range h.Users {
		texts = append(texts, textsOfUser(u)...)
	}
	return texts
}

func fillHub(h impl.Hub) {
	for _, u := range h.Users {
		fillUser(u)
	}
	filled(h.Pool.Leases, spareLease)
	filled(h.Pool.Fixes, spareFixed)
	filled(h.Routes, spareRoute)
	filled(h.Users, spareUser)
}

// checkAnswer holds the first half of promise 22 against an answer, too.
func (lent lentHub) checkAnswer(t *testing.T, what string, got impl.Hub, own impl.User, given ...string) {
	t.Helper()
	lists := append(listsOfHub(lent.h, true), listsOfHub(got, false)...)
	checkDisjoint(t, what, append(lists, listsOfUser(own, false)...), false)
	checkOwnTexts(t, what, append(textsOfHub(lent.h), given...), append(textsOfHub(got), textsOfUser(own)...)...)
	if hubRightLike(lent.h) && !hubRightLike(got) {
		t.Errorf("%s: %#v was right; what came of it, %#v, is not", what, lent.h, got)
	}
	fillHub(got)
	fillUser(own)
	lent.checkUntouched(t, what)
}

func checkHubNew(t *testing.T, net impl.Prefix, right bool) impl.Hub {
	t.Helper()
	want := impl.Hub{}
	if right {
		want.Pool.Net = net
	}
	for range 2 {
		got, ok := impl.HubNew(net)
		if !sameHub(got, want) || ok != right {
			t.Errorf("HubNew(%v) = %#v, %v; want %#v, %v", net, got, ok, want, right)
		}
		if ok && !hubRightLike(got) {
			t.Errorf("HubNew(%v) = %#v, which is not right", net, got)
		}
		checkDisjoint(t, "HubNew", listsOfHub(got, false), false)
		fillHub(got)
	}
	return want
}

// checkJoin asks twice: what was written into the first answer must not be
// seen in the second one.
func checkJoin(t *testing.T, h impl.Hub, id int, seed string, now int, want impl.Hub, own impl.User, right bool) {
	t.Helper()
	lent, given := lendHub(h), inLongerText(seed)
	for range 2 {
		got, u, ok := impl.Join(lent.h, id, given, now)
		if !sameHub(got, want) || !sameUser(u, own) || ok != right {
			t.Errorf("Join(%#v, %d, %.40q, %d) = %#v, %#v, %v; want %#v, %#v, %v", h, id, seed, now, got, u, ok, want, own, right)
		}
		lent.checkAnswer(t, "Join", got, u, given)
	}
}

func checkJoinLike(t *testing.T, h impl.Hub, id int, seed string, now int) (impl.Hub, impl.User, bool) {
	t.Helper()
	want, own, right := joinLike(h, id, seed, now)
	checkJoin(t, h, id, seed, now, want, own, right)
	return want, own, right
}

func checkNoJoin(t *testing.T, h impl.Hub, id, now int) {
	t.Helper()
	checkJoin(t, h, id, "s", now, h, impl.User{}, false)
}

func checkLeave(t *testing.T, h impl.Hub, id int, want impl.Hub, right bool) {
	t.Helper()
	lent := lendHub(h)
	for range 2 {
		got, ok := impl.Leave(lent.h, id)
		if !sameHub(got, want) || ok != right {
			t.Errorf("Leave(%#v, %d) = %#v, %v; want %#v, %v", h, id, got, ok, want, right)
		}
		if ok {
			checkGone(t, h, id, got)
		}
		lent.checkAnswer(t, "Leave", got, impl.User{})
	}
}

// checkGone holds the other half of promise 22 against what is left.
func checkGone(t *testing.T, h impl.Hub, id int, left impl.Hub) {
	t.Helper()
	for _, u := range left.Users {
		if u.Id == id {
			t.Errorf("%d left %#v and is there: %#v", id, h, left)
		}
	}
	for _, l := range left.Pool.Leases {
		if l.Who == id {
			t.Errorf("%d left %#v and has a lease: %#v", id, h, left)
		}
	}
	for _, r := range left.Routes {
		if r.To == id {
			t.Errorf("%d left %#v and has a route: %#v", id, h, left)
		}
		if got := impl.TargetOf(left, innerOf(0, r.Prefix.Addr, "")); got == id && id != 0 {
			t.Errorf("%d left %#v and is the target of %v: %#v", id, h, r, left)
		}
	}
	checkOthersStay(t, h, id, left)
}

func checkOthersStay(t *testing.T, h impl.Hub, id int, left impl.Hub) {
	t.Helper()
	others := changedHub(h, func(h *impl.Hub) {
		h.Users = slices.DeleteFunc(h.Users, func(u impl.User) bool { return u.Id == id })
		h.Pool.Leases = slices.DeleteFunc(h.Pool.Leases, func(l impl.Lease) bool { return l.Who == id })
		h.Routes = slices.DeleteFunc(h.Routes, func(r impl.Route) bool { return r.To == id })
	})
	if !sameHub(left, others) {
		t.Errorf("%d left %#v: %#v stays; want %#v", id, h, left, others)
	}
}

func checkNoLeave(t *testing.T, h impl.Hub, id int) {
	t.Helper()
	checkLeave(t, h, id, h, false)
}

func checkLeaveLike(t *testing.T, h impl.Hub, id int) (impl.Hub, bool) {
	t.Helper()
	want, right := leaveLike(h, id)
	checkLeave(t, h, id, want, right)
	return want, right
}

func checkAddNet(t *testing.T, h impl.Hub, id int, p impl.Prefix, want impl.Hub, right bool) {
	t.Helper()
	lent := lendHub(h)
	for range 2 {
		got, ok := impl.AddNet(lent.h, id, p)
		if !sameHub(got, want) || ok != right {
			t.Errorf("AddNet(%#v, %d, %v) = %#v, %v; want %#v, %v", h, id, p, got, ok, want, right)
		}
		if ok && impl.LookUp(got.Routes, p.Addr) == 0 {
			t.Errorf("AddNet(%#v, %d, %v) = %#v, which has no route to it", h, id, p, got)
		}
		lent.checkAnswer(t, "AddNet", got, impl.User{})
	}
}

func checkAddNetLike(t *testing.T, h impl.Hub, id int, p impl.Prefix) (impl.Hub, bool) {
	t.Helper()
	want, right := addNetLike(h, id, p)
	checkAddNet(t, h, id, p, want, right)
	return want, right
}

func checkNoNet(t *testing.T, h impl.Hub, id int, p impl.Prefix) {
	t.Helper()
	checkAddNet(t, h, id, p, h, false)
}

func checkSendInner(t *testing.T, u impl.User, from, to int, x impl.Inner, want impl.User, packets []impl.Packet, right bool) {
	t.Helper()
	lent, given := lendUser(u), x
	given.Text = inLongerText(x.Text)
	for range 2 {
		got, list, ok := impl.SendInner(lent.u, from, to, given)
		if !sameUser(got, want) || !slices.EqualFunc(list, packets, samePacket) || ok != right {
			t.Errorf("SendInner(%#v, %d, %d, %#v) = %#v, %#v, %v; want %#v, %#v, %v", u, from, to, x, got, list, ok, want, packets, right)
		}
		for _, p := range list {
			if !impl.PacketOk(p) {
				t.Errorf("SendInner(%#v, %d, %d, %#v): %#v goes out and is not right", u, from, to, x, p)
			}
		}
		lent.checkAnswer(t, "SendInner", got, impl.Inner{}, list, given.Text)
	}
}

func checkSendInnerLike(t *testing.T, u impl.User, from, to int, x impl.Inner) (impl.User, []impl.Packet, bool) {
	t.Helper()
	want, packets, right := sendInnerLike(u, from, to, x)
	checkSendInner(t, u, from, to, x, want, packets, right)
	return want, packets, right
}

func checkNotSent(t *testing.T, u impl.User, from, to int, x impl.Inner) {
	t.Helper()
	checkSendInner(t, u, from, to, x, u, nil, false)
}

func checkTakeData(t *testing.T, u impl.User, p impl.Packet, now int, want impl.User, x impl.Inner, right bool) {
	t.Helper()
	lent, given := lendUser(u), p
	acks, room := inRoom(p.Acks, spareAck)
	were := slices.Clone(room)
	given.Acks, given.Body = acks, inLongerText(p.Body)
	for range 2 {
		got, y, ok := impl.TakeData(lent.u, given, now)
		if !sameUser(got, want) || y != x || ok != right {
			t.Errorf("TakeData(%#v, %#v, %d) = %#v, %#v, %v; want %#v, %#v, %v", u, p, now, got, y, ok, want, x, right)
		}
		if ok && !impl.InnerOk(y) {
			t.Errorf("TakeData(%#v, %#v, %d): %#v comes and is not right", u, p, now, y)
		}
		checkDisjoint(t, "TakeData", append(listsOfUser(got, false), memoryOf(room, true, "Acks")), false)
		lent.checkAnswer(t, "TakeData", got, y, nil, given.Body)
		if !slices.Equal(room, were) {
			t.Errorf("TakeData wrote into its argument: %v; want %v", room, were)
		}
	}
}

func checkTakeDataLike(t *testing.T, u impl.User, p impl.Packet, now int) (impl.User, impl.Inner, bool) {
	t.Helper()
	want, x, right := takeDataLike(u, p, now)
	checkTakeData(t, u, p, now, want, x, right)
	return want, x, right
}

// checkPassedOver is of a packet that is not even noted.
func checkPassedOver(t *testing.T, u impl.User, p impl.Packet, now int) {
	t.Helper()
	checkTakeData(t, u, p, now, u, impl.Inner{}, false)
}

func checkAllowed(t *testing.T, h impl.Hub, id int, x impl.Inner, want bool) {
	t.Helper()
	lent := lendHub(h)
	if got := impl.Allowed(lent.h, id, x); got != want {
		t.Errorf("Allowed(%#v, %d, %#v) = %v; want %v", h, id, x, got, want)
	}
	lent.checkUntouched(t, "Allowed")
}

func checkTarget(t *testing.T, h impl.Hub, x impl.Inner, want int) {
	t.Helper()
	lent := lendHub(h)
	if got := impl.TargetOf(lent.h, x); got != want {
		t.Errorf("TargetOf(%#v, %#v) = %d; want %d", h, x, got, want)
	}
	lent.checkUntouched(t, "TargetOf")
}

// checkRouted asks about an address as where it comes from and where it goes.
func checkRouted(t *testing.T, h impl.Hub, a int, texts ...string) {
	t.Helper()
	lent, to := lendHub(h), lookUpLike(h.Routes, a)
	for _, text := range append(texts, "") {
		if got := impl.TargetOf(lent.h, innerOf(-1, a, text)); got != to {
			t.Errorf("TargetOf(%#v, to %d) = %d; want %d", h, a, got, to)
		}
		for _, id := range []int{to, to + 1, to - 1, 0, 1, lastUser, hubId, -to, to + 256, to + 1<<32, math.MinInt, math.MaxInt} {
			if got := impl.Allowed(lent.h, id, innerOf(a, -1, text)); got != (id == to) {
				t.Errorf("Allowed(%#v, %d, from %d) = %v; the target is %d", h, id, a, got, to)
			}
		}
	}
	lent.checkUntouched(t, "who is allowed, and the target")
}

// newHub has all who are told to join, at 0, by seeds of their own.
func newHub(t *testing.T, ids ...int) (impl.Hub, []impl.User) {
	t.Helper()
	h, ok := impl.HubNew(hubNet)
	var owns []impl.User
	for _, id := range ids {
		next, own, joined := impl.Join(h, id, seedOf(id), 0)
		h, owns, ok = next, append(owns, own), ok && joined
	}
	if !ok || len(h.Users) != len(ids) {
		t.Fatalf("%v don't join: %#v", ids, h)
	}
	return h, owns
}

func seedOf(id int) string {
	return "seed " + impl.Decimal(id)
}

// busyHub has something in every list, and users who are in the midst of much.
func busyHub() impl.Hub {
	leases := leasesOf([3]int{257, 7, 20}, [3]int{258, 50, 33}, [3]int{300, 3, 20}, [3]int{509, 12, 5})
	fixes := fixesOf([2]int{3, 300}, [2]int{60, 500})
	routes := []impl.Route{routeAt(0, 0, 12), routeAt(257, 32, 7), routeAt(300, 32, 3), routeAt(509, 32, 12), routeAt(512, 24, 3), routeAt(1024, 24, 7), routeAt(1024, 32, 3)}
	return hubOf(poolOf(hubNet, leases, fixes), routes,
		userOf(3, 300, fullSlots(), fullShelf(), 5),
		userOf(7, 257, slotsOf(slotAt(2, 0, 0), slotAt(1, 5, 30, 4, 3)), shelfOf(firstOf(7, 9, 2, 3, "held")), 255),
		userOf(12, 509, slotsOf(slotAt(1, maxCount, 0), impl.Slot{}), impl.Shelf{}, mostNum))
}

// linkOf is both ends of one link, the user's own first.
func linkOf(t *testing.T) [2]impl.User {
	t.Helper()
	h, owns := newHub(t, 3)
	return [2]impl.User{owns[0], h.Users[0]}
}

func userIdsOutside() []int {
	return []int{0, -1, -2, -98, -99, 99, 100, 255, 256, 257, 1 << 32, 1<<32 + 1, 1<<32 + 3, math.MinInt, math.MinInt + 3, math.MaxInt - 1, math.MaxInt}
}

func TestConstantsOfHubs(t *testing.T) {
	if impl.MaxUsers != maxUsers || impl.HubId != hubId {
		t.Errorf("MaxUsers is %d, HubId %d; want 3, 99", impl.MaxUsers, impl.HubId)
	}
}

func TestNewHubs(t *testing.T) {
	for _, net := range append(netsOfNote(), hubNet, smallNet, wideNet) {
		checkHubNew(t, net, true)
	}
	for _, net := range wrongPrefixes() {
		checkHubNew(t, net, false)
	}
	for n := -1; n <= 33; n++ {
		checkHubNew(t, impl.Prefix{Addr: 0, Len: n}, n >= 24 && n <= 30)
		checkHubNew(t, impl.Prefix{Addr: 256, Len: n}, n >= 24 && n <= 30)
		checkHubNew(t, impl.Prefix{Addr: 257, Len: n}, false)
	}
	for _, n := range lensOutside() {
		checkHubNew(t, impl.Prefix{Addr: 256, Len: n}, false)
	}
	checkHubNew(t, impl.Prefix{}, false)
}

// The keys below were worked out outside this program.
func TestFixedJoins(t *testing.T) {
	a := unhexed(t, "4cf6829aa93728e8f3c97df913fb1bfa95fe5810e2933a05943f8312a98d9cf2")
	b := unhexed(t, "b831b33e0c05b45e15bbdd9b3bfa43825fee0aa0b6e5a54e31e2bd8b073b76b7")
	own := userOf(3, 257, slotsOf(impl.Slot{Epoch: 1, Send: a, Open: b}, impl.Slot{}), impl.Shelf{}, 0)
	behind := userOf(3, 257, slotsOf(impl.Slot{Epoch: 1, Send: b, Open: a}, impl.Slot{}), impl.Shelf{}, 0)
	empty := checkHubNew(t, hubNet, true)
	one := hubOf(poolOf(hubNet, leasesOf([3]int{257, 3, 20}), nil), []impl.Route{routeAt(257, 32, 3)}, behind)
	checkJoin(t, empty, 3, "s", 0, one, own, true)
	first := behind
	first.Id, first.Addr = 1, 258
	firstOwn := own
	firstOwn.Id, firstOwn.Addr = 1, 258
	two := hubOf(poolOf(hubNet, leasesOf([3]int{257, 3, 20}, [3]int{258, 1, 27}), nil), []impl.Route{routeAt(257, 32, 3), routeAt(258, 32, 1)}, first, behind)
	checkJoin(t, one, 1, "s", 7, two, firstOwn, true)
	last := behind
	last.Id, last.Addr = 98, 259
	lastOwn := own
	lastOwn.Id, lastOwn.Addr = 98, 259
	three := hubOf(poolOf(hubNet, leasesOf([3]int{257, 3, 20}, [3]int{258, 1, 27}, [3]int{259, 98, mostNum}), nil), []impl.Route{routeAt(257, 32, 3), routeAt(258, 32, 1), routeAt(259, 32, 98)}, first, behind, last)
	checkJoin(t, two, 98, "s", mostNow, three, lastOwn, true)
	checkNoJoin(t, three, 2, 0)
	checkLeave(t, three, 98, two, true)
	checkLeave(t, two, 1, one, true)
	checkLeave(t, one, 3, empty, true)
	checkNoLeave(t, empty, 3)
}

// Whoever joins first has the first address, but stands by his Id.
func TestJoinsInEveryOrder(t *testing.T) {
	ids := []int{1, 50, 98}
	eachOrder(3, nil, func(order []int) {
		h := checkHubNew(t, hubNet, true)
		for place, number := range order {
			id := ids[number-1]
			next, own, ok := checkJoinLike(t, h, id, seedOf(id), place)
			if !ok || own.Id != id || own.Addr != 257+place || !hubRightLike(next) {
				t.Fatalf("%d joins %#v: %#v, %#v, %v", id, h, next, own, ok)
			}
			h = next
		}
		for place, u := range h.Users {
			if u.Id != ids[place] || impl.LookUp(h.Routes, u.Addr) != u.Id || impl.HolderOf(h.Pool, u.Addr) != u.Id {
				t.Errorf("in the order %v, %#v came to be", order, h)
			}
		}
		for _, id := range []int{1, 2, 50, 51, 98, 99} {
			checkNoJoin(t, h, id, 3)
		}
	})
}

func TestIdsThatJoin(t *testing.T) {
	empty := checkHubNew(t, hubNet, true)
	busy, _ := checkLeaveLike(t, busyHub(), 12)
	for id := -3; id <= 103; id++ {
		_, own, ok := checkJoinLike(t, empty, id, "s", 0)
		if ok != (id >= 1 && id <= 98) || ok && own.Id != id {
			t.Errorf("%d joins: %v, as %#v", id, ok, own)
		}
		_, _, ok = checkJoinLike(t, busy, id, "s", 0)
		if ok != (id >= 1 && id <= 98 && id != 3 && id != 7) {
			t.Errorf("%d joins %#v: %v", id, busy, ok)
		}
	}
	for _, id := range userIdsOutside() {
		checkNoJoin(t, empty, id, 0)
		checkNoJoin(t, busy, id, 0)
		checkNoJoin(t, busyHub(), id, 0)
	}
}

func TestSeedsOfJoins(t *testing.T) {
	empty := checkHubNew(t, hubNet, true)
	for _, seed := range []string{"", "s", "a", "\x00", "\xff\x80\n", "äö", drawnText(280, 100), drawnText(281, 1000), drawnText(282, impl.MaxText+1)} {
		h, own, _ := checkJoinLike(t, empty, 3, seed, 0)
		one, other := impl.PairSlots(seed)
		if !sameSlots(own.Slots, one) || !sameSlots(h.Users[0].Slots, other) {
			t.Errorf("of the seed %.40q the ends are %#v and %#v", seed, own, h.Users[0])
		}
	}
}

func TestTimesOfJoins(t *testing.T) {
	empty := checkHubNew(t, hubNet, true)
	for _, now := range []int{0, 1, 19, 20, 21, mostNow - 1, mostNow} {
		h, own, ok := checkJoinLike(t, empty, 3, "s", now)
		if !ok || h.Pool.Leases[0].Until != now+20 || own.Slots.Main.Until != 0 {
			t.Errorf("at %d there came %#v, %#v, %v", now, h, own, ok)
		}
	}
	for _, now := range nowsOutside() {
		checkNoJoin(t, empty, 3, now)
	}
}

// More users than there may be are no hub to join, either.
func TestHowManyJoin(t *testing.T) {
	h := checkHubNew(t, hubNet, true)
	for id := 1; id <= 3; id++ {
		h, _, _ = checkJoinLike(t, h, id, "s", 0)
	}
	if len(h.Users) != 3 {
		t.Fatalf("%#v came of three who joined", h)
	}
	for id := 4; id <= 98; id++ {
		checkNoJoin(t, h, id, 0)
	}
	left, _ := checkLeaveLike(t, h, 2)
	again, own, ok := checkJoinLike(t, left, 90, "s", 1)
	if !ok || own.Addr != 258 || len(again.Users) != 3 {
		t.Errorf("90 joins %#v: %#v, %#v, %v", left, again, own, ok)
	}
	for size := range 7 {
		many := changedHub(h, func(h *impl.Hub) {
			h.Users = nil
			for place := range size {
				h.Users = append(h.Users, userOf(20+place, 0, impl.Slots{}, impl.Shelf{}, 0))
			}
		})
		if _, _, ok := checkJoinLike(t, many, 9, "s", 0); ok != (size < 3) {
			t.Errorf("9 joins %d users: %v", size, ok)
		}
	}
}

func TestNoAddressToJoin(t *testing.T) {
	tight := hubOf(poolOf(smallNet, nil, nil), nil)
	one, _, _ := checkJoinLike(t, tight, 5, "s", 0)
	two, _, ok := checkJoinLike(t, one, 4, "s", 0)
	if !ok {
		t.Fatalf("two don't join %#v", tight)
	}
	checkNoJoin(t, two, 6, 0)
	left, _ := checkLeaveLike(t, two, 5)
	if _, own, ok := checkJoinLike(t, left, 6, "s", 0); !ok || own.Addr != 257 {
		t.Errorf("6 joins %#v as %#v, %v", left, own, ok)
	}
	fixed := hubOf(poolOf(smallNet, nil, fixesOf([2]int{8, 257}, [2]int{9, 258})), nil)
	checkNoJoin(t, fixed, 7, 0)
	if _, own, ok := checkJoinLike(t, fixed, 9, "s", 0); !ok || own.Addr != 258 {
		t.Errorf("9 joins %#v as %#v, %v", fixed, own, ok)
	}
	for size := range maxLeases + 1 {
		full := hubOf(poolOf(hubNet, leasesInRow(257, size), nil), nil)
		if _, _, ok := checkJoinLike(t, full, 7, "s", 0); ok != (size < maxLeases) {
			t.Errorf("7 joins at %d leases: %v", size, ok)
		}
		if _, own, ok := checkJoinLike(t, full, 20, "s", 9); !ok || own.Addr != 257 {
			t.Errorf("20, whose lease may be there, joins %#v as %#v, %v", full, own, ok)
		}
	}
}

// A lease that is there without a user is the user's who joins.
func TestALeaseThatIsThere(t *testing.T) {
	h := busyHub()
	h.Users = h.Users[:2]
	next, own, ok := checkJoinLike(t, h, 50, "s", 100)
	if !ok || own.Addr != 258 || len(next.Pool.Leases) != 4 || next.Pool.Leases[1].Until != 120 || impl.TargetOf(next, innerOf(0, 258, "")) != 50 {
		t.Errorf("50 joins %#v: %#v, %#v, %v", h, next, own, ok)
	}
}

func TestJoinsOfWrongHubs(t *testing.T) {
	for _, p := range wrongPools() {
		checkNoJoin(t, hubOf(p, nil), 7, 0)
		checkNoJoin(t, hubOf(p, []impl.Route{routeAt(0, 0, 1)}, userOf(1, 5, impl.Slots{}, impl.Shelf{}, 0)), 7, 0)
	}
	for _, routes := range wrongRoutes() {
		checkNoJoin(t, hubOf(poolOf(hubNet, nil, nil), routes), 7, 0)
	}
	checkNoJoin(t, impl.Hub{}, 7, 0)
}

func TestRoutesThatAreFull(t *testing.T) {
	for size := range maxRoutes + 1 {
		var routes []impl.Route
		for place := range size {
			routes = append(routes, routeAt(1024+256*place, 24, 3))
		}
		h := hubOf(poolOf(hubNet, leasesOf([3]int{300, 3, 9}), nil), routes, userOf(3, 300, impl.Slots{}, impl.Shelf{}, 0))
		if _, _, ok := checkJoinLike(t, h, 7, "s", 0); ok != (size < 12) {
			t.Errorf("7 joins at %d routes: %v", size, ok)
		}
		if _, ok := checkAddNetLike(t, h, 3, impl.Prefix{Addr: 1 << 31, Len: 1}); ok != (size < 12) {
			t.Errorf("a net is added at %d routes: %v", size, ok)
		}
		for _, r := range routes {
			checkAddNet(t, h, 3, r.Prefix, h, true)
		}
	}
}

// A route that is there is another one's then, even where all are there.
func TestARouteThatIsThere(t *testing.T) {
	for _, size := range []int{1, 2, 11, 12} {
		h, _ := newHub(t, 3, 5)
		h.Routes = []impl.Route{routeAt(259, 32, 3)}
		for place := range size - 1 {
			h.Routes = append(h.Routes, routeAt(1024+256*place, 24, 5))
		}
		next, own, ok := checkJoinLike(t, h, 7, "s", 0)
		if !ok || own.Addr != 259 || len(next.Routes) != size || next.Routes[0] != routeAt(259, 32, 7) {
			t.Errorf("7 joins %#v: %#v, %#v, %v", h, next, own, ok)
		}
		h.Routes[0].To = 5
		taken, ok := checkAddNetLike(t, h, 3, impl.Prefix{Addr: 259, Len: 32})
		if !ok || len(taken.Routes) != size || taken.Routes[0] != routeAt(259, 32, 3) {
			t.Errorf("3 takes a route in %#v: %#v, %v", h, taken, ok)
		}
	}
}

func TestWhoLeaves(t *testing.T) {
	h := busyHub()
	leases := h.Pool.Leases
	left, ok := checkLeaveLike(t, h, 3)
	if want := []impl.Route{routeAt(0, 0, 12), routeAt(257, 32, 7), routeAt(509, 32, 12), routeAt(1024, 24, 7)}; !ok || !slices.Equal(left.Routes, want) {
		t.Errorf("3 leaves %#v: %#v, %v", h, left, ok)
	}
	if want := []impl.Lease{leases[0], leases[1], leases[3]}; !slices.Equal(left.Pool.Leases, want) || !slices.Equal(left.Pool.Fixes, h.Pool.Fixes) {
		t.Errorf("3 leaves %#v, whose pool is %#v then", h, left.Pool)
	}
	if len(left.Users) != 2 || !sameUser(left.Users[0], h.Users[1]) || !sameUser(left.Users[1], h.Users[2]) {
		t.Errorf("3 leaves %#v, whose users are %#v then", h, left.Users)
	}
	checkNoLeave(t, left, 3)
	eachOrder(3, nil, func(order []int) {
		rest := h
		for _, number := range order {
			id := []int{3, 7, 12}[number-1]
			next, ok := checkLeaveLike(t, rest, id)
			if !ok || !hubRightLike(next) {
				t.Fatalf("%d leaves %#v: %#v, %v", id, rest, next, ok)
			}
			checkNoLeave(t, next, id)
			checkNoNet(t, next, id, impl.Prefix{Addr: 2048, Len: 24})
			rest = next
		}
		if len(rest.Users) != 0 || len(rest.Routes) != 0 || !slices.Equal(rest.Pool.Leases, leases[1:2]) {
			t.Errorf("when all have left there is %#v", rest)
		}
	})
}

func TestWhoIsNotThereDoesNotLeave(t *testing.T) {
	for _, h := range []impl.Hub{{}, checkHubNew(t, hubNet, true), busyHub(), hubOf(poolOf(hubNet, leasesInRow(257, 6), nil), []impl.Route{routeAt(0, 0, 20)})} {
		for id := -2; id <= 101; id++ {
			if hasUserLike(h, id) {
				continue
			}
			checkNoLeave(t, h, id)
			checkNoNet(t, h, id, impl.Prefix{Addr: 2048, Len: 24})
		}
		for _, id := range userIdsOutside() {
			checkNoLeave(t, h, id)
			checkNoNet(t, h, id, impl.Prefix{Addr: 2048, Len: 24})
		}
	}
}

// wrongHubs have a user 3 each.
func wrongHubs() []impl.Hub {
	three := userOf(3, 300, fullSlots(), fullShelf(), 5)
	none := userOf(0, 0, impl.Slots{}, impl.Shelf{}, -1)
	list := []impl.Hub{
		hubOf(impl.Pool{}, nil, three),
		hubOf(impl.Pool{}, nil, three, three, none, three),
		hubOf(impl.Pool{}, []impl.Route{routeAt(9, 9, 3), routeAt(-1, 40, 0), routeAt(9, 9, 3)}, none, three),
		hubOf(poolOf(hubNet, leasesOf([3]int{300, 3, 9}, [3]int{299, 3, 9}), nil), nil, three),
		hubOf(poolOf(hubNet, leasesOf([3]int{300, 4, 9}, [3]int{301, 3, 9}), nil), []impl.Route{routeAt(0, 0, 50)}, three),
		hubOf(poolOf(hubNet, nil, nil), nil, userOf(98, 1, impl.Slots{}, impl.Shelf{}, 0), three, userOf(1, 2, impl.Slots{}, impl.Shelf{}, 0)),
	}
	for _, p := range wrongPools() {
		list = append(list, hubOf(p, []impl.Route{routeAt(0, 0, 3)}, three))
	}
	for _, routes := range wrongRoutes() {
		list = append(list, hubOf(poolOf(hubNet, leasesOf([3]int{300, 3, 9}), nil), routes, three))
	}
	for place, s := range wrongPairs() {
		if place%40 == 0 {
			list = append(list, hubOf(impl.Pool{}, nil, three, userOf(4, -7, s, impl.Shelf{}, math.MinInt)))
		}
	}
	for _, h := range wrongShelves() {
		list = append(list, hubOf(impl.Pool{}, nil, three, userOf(math.MaxInt, maxAddr+1, impl.Slots{}, h, math.MaxInt)))
	}
	return list
}

// Who leaves has nothing left, whatever else is wrong.
func TestWhoLeavesWrongHubs(t *testing.T) {
	for _, h := range wrongHubs() {
		if _, ok := checkLeaveLike(t, h, 3); !ok {
			t.Errorf("3 does not leave %#v", h)
		}
		for _, id := range []int{0, 4, 99, -1, math.MaxInt} {
			checkLeaveLike(t, h, id)
		}
		checkAddNetLike(t, h, 3, impl.Prefix{Addr: 2048, Len: 24})
		checkJoinLike(t, h, 5, "s", 0)
		checkJoinLike(t, h, 3, "s", 0)
	}
	many := hubOf(poolOf(hubNet, nil, nil), nil)
	for id := range 200 {
		many.Users = append(many.Users, userOf(id%7, id, impl.Slots{}, impl.Shelf{}, id))
		many.Pool.Leases = append(many.Pool.Leases, impl.Lease{Addr: id, Who: id % 7, Until: id})
		many.Routes = append(many.Routes, routeAt(id, 32, id%7))
	}
	left, ok := checkLeaveLike(t, many, 3)
	if !ok || len(left.Users) != 171 || len(left.Routes) != 171 || len(left.Pool.Leases) != 171 {
		t.Errorf("of 200 are left %d users, %d routes, %d leases", len(left.Users), len(left.Routes), len(left.Pool.Leases))
	}
}

func TestFixedNets(t *testing.T) {
	h, _ := newHub(t, 3, 7)
	next, ok := checkAddNetLike(t, h, 3, impl.Prefix{Addr: 512, Len: 24})
	if want := []impl.Route{routeAt(257, 32, 3), routeAt(258, 32, 7), routeAt(512, 24, 3)}; !ok || !slices.Equal(next.Routes, want) || !samePool(next.Pool, h.Pool) {
		t.Errorf("a net behind 3: %#v, %v", next, ok)
	}
	next, ok = checkAddNetLike(t, next, 7, impl.Prefix{})
	if want := []impl.Route{routeAt(0, 0, 7), routeAt(257, 32, 3), routeAt(258, 32, 7), routeAt(512, 24, 3)}; !ok || !slices.Equal(next.Routes, want) {
		t.Errorf("all else behind 7: %#v, %v", next, ok)
	}
	next, ok = checkAddNetLike(t, next, 7, impl.Prefix{Addr: 512, Len: 24})
	if want := []impl.Route{routeAt(0, 0, 7), routeAt(257, 32, 3), routeAt(258, 32, 7), routeAt(512, 24, 7)}; !ok || !slices.Equal(next.Routes, want) {
		t.Errorf("a net that is behind 7 now: %#v, %v", next, ok)
	}
	next, ok = checkAddNetLike(t, next, 3, impl.Prefix{Addr: 512, Len: 25})
	if want := []impl.Route{routeAt(0, 0, 7), routeAt(257, 32, 3), routeAt(258, 32, 7), routeAt(512, 24, 7), routeAt(512, 25, 3)}; !ok || !slices.Equal(next.Routes, want) {
		t.Errorf("a half of it behind 3: %#v, %v", next, ok)
	}
	for a, to := range map[int]int{0: 7, 256: 7, 257: 3, 258: 7, 259: 7, 511: 7, 512: 3, 639: 3, 640: 7, 767: 7, 768: 7, maxAddr: 7} {
		checkTarget(t, next, innerOf(0, a, "x"), to)
		checkRouted(t, next, a)
	}
}

func TestNetsOfEveryPrefix(t *testing.T) {
	h := busyHub()
	for _, a := range addrsOfNote() {
		for n := range maxLen + 1 {
			p := prefixLike(a, n)
			if next, ok := checkAddNetLike(t, h, 7, p); !ok || !slices.Contains(next.Routes, impl.Route{Prefix: p, To: 7}) {
				t.Errorf("%v is not added: %#v", p, next)
			}
		}
	}
	for _, p := range wrongPrefixes() {
		for _, id := range []int{3, 7, 12, 50, 0} {
			checkNoNet(t, h, id, p)
		}
	}
	for _, routes := range wrongRoutes() {
		wrong := h
		wrong.Routes = routes
		checkNoNet(t, wrong, 7, impl.Prefix{Addr: 2048, Len: 24})
	}
}

// A user of a hub that is not right may have an Id that no route is to.
func TestNetsOfWrongUsers(t *testing.T) {
	for _, id := range []int{0, -1, 1, 98, 99, 100, math.MinInt, math.MaxInt} {
		h := hubOf(impl.Pool{}, nil, userOf(id, 1, impl.Slots{}, impl.Shelf{}, 0))
		if _, ok := checkAddNetLike(t, h, id, impl.Prefix{}); ok != (id >= 1 && id <= 99) {
			t.Errorf("a net is added behind %d: %v", id, ok)
		}
		if left, ok := checkLeaveLike(t, h, id); !ok || len(left.Users) != 0 {
			t.Errorf("%d leaves: %#v, %v", id, left, ok)
		}
	}
}

func TestWhoIsAllowedAndWhoIsTheTarget(t *testing.T) {
	hubs := []impl.Hub{{}, busyHub(), checkHubNew(t, hubNet, true)}
	for _, routes := range routesOfNote() {
		hubs = append(hubs, hubOf(impl.Pool{}, routes))
	}
	for place, routes := range wrongRoutes() {
		if place%3 == 0 {
			hubs = append(hubs, hubOf(poolOf(hubNet, nil, nil), routes, busyHub().Users...))
		}
	}
	for _, h := range hubs {
		for place, a := range append(addrsOfNote(), 257, 258, 300, 509, 511, 512, 767, 1024, 1025) {
			if place%4 == 0 || a < 2048 {
				checkRouted(t, h, a)
			}
		}
		for _, a := range addrsOutside() {
			checkRouted(t, h, a, "x")
		}
	}
}

// Routes alone tell both: not who has the address, nor who is there, nor what
// else is in an inner packet.
func TestRoutesAloneTell(t *testing.T) {
	long := strings.Repeat("z", maxInner+1)
	h := busyHub()
	for _, a := range []int{0, 257, 258, 300, 509, 1024, 1025, maxAddr, maxAddr + 1, -1} {
		checkRouted(t, h, a, "x", long)
		checkRouted(t, hubOf(impl.Pool{}, h.Routes), a, long)
		checkRouted(t, hubOf(h.Pool, nil, h.Users...), a, long)
		checkTarget(t, hubOf(h.Pool, nil, h.Users...), innerOf(257, a, ""), 0)
	}
	for _, x := range []impl.Inner{innerOf(257, 300, ""), innerOf(257, 300, long), innerOf(257, -1, long), innerOf(257, 257, "")} {
		checkAllowed(t, h, 7, x, true)
		checkAllowed(t, h, 3, x, false)
	}
	for _, x := range []impl.Inner{innerOf(257, 300, ""), innerOf(-1, 300, long), innerOf(maxAddr+1, 300, ""), innerOf(300, 300, "")} {
		checkTarget(t, h, x, 3)
	}
}

// Who has no route is nobody: an id of 0, and no user's, is where LookUp is 0.
func TestWhoHasNoRoute(t *testing.T) {
	h, _ := newHub(t, 3, 7)
	for _, a := range []int{0, 256, 259, 512, maxAddr, -1, maxAddr + 1} {
		checkTarget(t, h, innerOf(257, a, "x"), 0)
		for id := 1; id <= hubId; id++ {
			checkAllowed(t, h, id, innerOf(a, 257, "x"), false)
		}
		checkAllowed(t, h, 0, innerOf(a, 257, "x"), true)
	}
	taken, ok := checkAddNetLike(t, h, 7, impl.Prefix{Addr: 257, Len: 32})
	if !ok || !hubRightLike(taken) {
		t.Fatalf("7 does not take the route of 3: %#v", taken)
	}
	checkTarget(t, taken, innerOf(258, 257, "x"), 7)
	checkAllowed(t, taken, 3, innerOf(257, 258, "x"), false)
	checkAllowed(t, taken, 7, innerOf(257, 258, "x"), true)
	left, _ := checkLeaveLike(t, taken, 7)
	if !hubRightLike(left) || len(left.Routes) != 0 || len(left.Users) != 1 {
		t.Errorf("7 leaves with the route of 3: %#v", left)
	}
	checkTarget(t, left, innerOf(258, 257, "x"), 0)
	checkAllowed(t, left, 3, innerOf(257, 258, "x"), false)
	again, own, ok := checkJoinLike(t, left, 7, "s", 0)
	if !ok || own.Addr != 258 || !slices.Equal(again.Routes, []impl.Route{routeAt(258, 32, 7)}) {
		t.Errorf("7 joins %#v again: %#v, %#v, %v", left, again, own, ok)
	}
	back, ok := checkAddNetLike(t, again, 3, impl.Prefix{Addr: 257, Len: 32})
	if !ok {
		t.Errorf("3 does not get its route back: %#v", back)
	}
	checkAllowed(t, back, 3, innerOf(257, 258, "x"), true)
}

// The longest prefix counts, till whose it is leaves.
func TestNearestInItsPrefix(t *testing.T) {
	h, _ := newHub(t, 3, 5, 7)
	for _, row := range []struct{ id, size int }{{3, 8}, {5, 16}, {7, 24}, {3, 31}, {5, 32}} {
		h, _ = checkAddNetLike(t, h, row.id, prefixLike(167772418, row.size))
	}
	x := innerOf(167772418, 167772418, "x")
	for _, row := range []struct{ leaves, next int }{{5, 3}, {3, 7}, {7, 0}} {
		h, _ = checkLeaveLike(t, h, row.leaves)
		checkTarget(t, h, x, row.next)
		checkRouted(t, h, 167772418)
	}
}

func hubPacket(from, to, num int, body string) impl.Packet {
	return packetOf(opData, 1, from, to, num, nil, body)
}

// The bodies below were worked out outside this program.
func TestFixedInnersThatAreSent(t *testing.T) {
	link := linkOf(t)
	link[0].Slots, link[1].Slots = impl.PairSlots("s")
	for _, row := range []struct {
		end, ids, count int
		x               impl.Inner
		bodies          []string
	}{
		{0, 0, 0, innerOf(600, 257, "hi"), []string{"787925318011f1cc6c8b9692ff03238b4cb963dfd42e8b543e2162d22e"}},
		{1, 0, 0, innerOf(600, 257, "hi"), []string{"a0158cceebb346076b0474780719ddd9ae5621225babc1b9e471df5fe2"}},
		{0, 255, 3, impl.Inner{}, []string{"055a2d11bb1986635617c639abe868f19d1633271b8248a7fa95b0"}},
		{1, 256, 11, innerOf(maxAddr, 257, strings.Repeat("x", 52)), []string{"27247c5d07fdb8e452b78f153b02c156f22037b97601a1c24ca76117b3306d7125137290aedfba7084222504a0ddfa0103043a8705f88acd07b14a6278285ac620e22800a1912f7fa6d0dd2d7cfcfb"}},
		{0, 300, 0, innerOf(257, 258, strings.Repeat("y", 53)), []string{"547926318012a8cc6c8b9583ef4a33c09fd4b3f3d8edd79ade1e3444875bfbf65acca8707b0385c9e8137fad41b76c9c6cb93fe3dfcb4680031d78979cfcf1cdae24bb53a99db58111de8f0a0fe075", "ad2bcc909179fa6b6b117f4b909924f4e077c57c"}},
		{1, -1, 10, innerOf(258, 257, "\x00"+strings.Repeat("\xff", 99)), []string{"51b18f5d82dce8fb2b9ca7aa1a7662bc0e7b78e673bd18860f33c4df2f45fa182447b8caa57e525e0ec55f22968587f44fed8a96669daecf4a03fd97ac905d8e30a6c93e309487e6daf93997f397de", "d8257f5d07fdb81bad497192bc8546d175a7b03ef1862645cb20e69034b7eaf6a294f51729583df703a5a283275a7d868483bd696569915330523c24cfe5a057e0e176"}},
		{0, math.MaxInt, 4, innerOf(257, maxAddr, "end"), []string{"57d61ecf3a5d39c064d7eee36efc3bbc425c4da5edbc4ec9d0d5f2440abb"}},
		{1, math.MinInt, 4, innerOf(257, maxAddr, "end"), []string{"93a4005158beba596e5a0450a8cd348929a85caa682d0ac584c8bdf5d5a4"}},
	} {
		u := userOf(3, 257, counted(link[row.end].Slots, row.count), impl.Shelf{}, row.ids)
		var packets []impl.Packet
		for place, body := range row.bodies {
			packets = append(packets, hubPacket(3, hubId, row.count+1+place, unhexed(t, body)))
		}
		want := changedUser(u, func(u *impl.User) {
			u.Slots.Main.Count += len(packets)
			u.Ids++
		})
		checkSendInner(t, u, 3, hubId, row.x, want, packets, true)
		other := link[1-row.end]
		for place, p := range packets {
			next, x, ok := checkTakeDataLike(t, other, p, 0)
			if last := place == len(packets)-1; ok != last || last && x != row.x {
				t.Errorf("%#v takes %#v: %#v, %v", other, p, x, ok)
			}
			other = next
		}
	}
}

// checkArrives takes all of the packets in their order, of which nothing but
// the last one brings x.
func checkArrives(t *testing.T, u impl.User, packets []impl.Packet, now int, x impl.Inner) impl.User {
	t.Helper()
	for place, p := range packets {
		next, y, ok := checkTakeDataLike(t, u, p, now)
		if last := place == len(packets)-1; ok != last || last && y != x {
			t.Errorf("at %d of %d %#v takes %#v, %v; want %#v", place, len(packets), u, y, ok, x)
		}
		u = next
		checkPassedOver(t, u, p, now)
	}
	return u
}

func TestInnersOfEveryLengthArrive(t *testing.T) {
	link := linkOf(t)
	text := drawnText(283, maxInner)
	for size := range maxInner + 1 {
		for from := range link {
			x := innerOf(size, maxAddr-size, text[:size])
			_, packets, ok := checkSendInnerLike(t, link[from], 3, hubId, x)
			want := 1
			if size > onePiece {
				want = 2
			}
			if !ok || len(packets) != want {
				t.Errorf("%d bytes go out in %d packets, %v; want %d", size, len(packets), ok, want)
			}
			took := checkArrives(t, link[1-from], packets, 0, x)
			if len(took.Shelf.List) != 0 || len(took.Slots.Main.Seen) != want || took.Ids != 0 {
				t.Errorf("what took %d bytes is %#v then", size, took)
			}
		}
	}
}

func TestInnersOfNoteArrive(t *testing.T) {
	link := linkOf(t)
	list := fewInners()
	for place, text := range innerTextsOfNote() {
		list = append(list, innerOf(place, maxAddr-place, text))
	}
	for _, x := range list {
		_, packets, _ := checkSendInnerLike(t, link[1], hubId, 3, x)
		checkArrives(t, link[0], packets, lastHold, x)
	}
}

func TestWrongInnersAreNotSent(t *testing.T) {
	link := linkOf(t)
	for _, u := range []impl.User{link[0], link[1], busyHub().Users[0]} {
		for _, wrong := range addrsOutside() {
			checkNotSent(t, u, 3, hubId, innerOf(wrong, 257, "x"))
			checkNotSent(t, u, 3, hubId, innerOf(257, wrong, "x"))
		}
		for _, size := range []int{101, 102, 108, 200, 256, 292, 293, 300, 1000, impl.MaxText, 1 << 16} {
			checkNotSent(t, u, 3, hubId, innerOf(257, 258, strings.Repeat("z", size)))
		}
		checkNotSent(t, u, 0, 0, innerOf(-1, -1, strings.Repeat("z", 101)))
	}
}

func TestEndsOfInners(t *testing.T) {
	link := linkOf(t)
	long := innerOf(257, 258, strings.Repeat("z", maxInner))
	for from := range 102 {
		for _, to := range []int{0, 1, 3, 50, 98, 99, 100, from} {
			_, packets, ok := checkSendInnerLike(t, link[0], from, to, long)
			if ok != (from >= 1 && from <= 99 && to >= 1 && to <= 99) {
				t.Errorf("from %d to %d it is sent: %v", from, to, ok)
			}
			for _, p := range packets {
				if p.From != from || p.To != to || p.Key != 1 || len(p.Acks) != 0 {
					t.Errorf("from %d to %d goes %#v", from, to, p)
				}
			}
		}
	}
	for _, wrong := range endsOutside() {
		checkNotSent(t, link[0], wrong, 3, long)
		checkNotSent(t, link[0], 3, wrong, long)
		checkNotSent(t, link[0], wrong, wrong, impl.Inner{})
	}
}

func TestIdsOfPieces(t *testing.T) {
	link := linkOf(t)
	long := innerOf(257, 258, strings.Repeat("z", maxInner))
	for _, row := range [][2]int{{0, 0}, {1, 1}, {127, 127}, {128, 128}, {254, 254}, {255, 255}, {256, 0}, {257, 1}, {511, 255}, {512, 0}, {513, 1}, {mostNum, 0}, {mostNum + 1, 1}, {-1, 255}, {-2, 254}, {-255, 1}, {-256, 0}, {-257, 255}, {math.MaxInt, 255}, {math.MaxInt - 1, 254}, {math.MinInt, 0}, {math.MinInt + 1, 1}} {
		u := changedUser(link[0], func(u *impl.User) { u.Ids = row[0] })
		next, packets, ok := checkSendInnerLike(t, u, 3, hubId, long)
		if !ok || next.Ids != row[0]+1 {
			t.Errorf("of Ids %d there are %d then, %v", row[0], next.Ids, ok)
		}
		took, _, _ := checkTakeDataLike(t, link[1], packets[0], 0)
		if want := shelfOf(firstOf(3, row[1], 2, holdTime, innerTextLike(long)[:60])); !sameShelf(took.Shelf, want) {
			t.Errorf("of Ids %d comes what is held as %#v; want %#v", row[0], took.Shelf, want)
		}
		checkArrives(t, link[1], packets, 0, long)
	}
}

// What is sent goes round at int's end, and one more is one more ahead of it.
func TestIdsGoRound(t *testing.T) {
	u := changedUser(linkOf(t)[0], func(u *impl.User) { u.Ids = math.MaxInt - 1 })
	for _, want := range []int{math.MaxInt, math.MinInt, math.MinInt + 1} {
		next, _, ok := checkSendInnerLike(t, u, 3, hubId, innerOf(1, 2, "x"))
		if !ok || next.Ids != want {
			t.Errorf("behind Ids %d come %d, %v; want %d", u.Ids, next.Ids, ok, want)
		}
		u = next
	}
}

// Keys that are spent at a later piece let nothing go, and no number is used.
func TestSpentKeysOfInners(t *testing.T) {
	link := linkOf(t)
	for count := range maxCount + 1 {
		u := changedUser(link[0], func(u *impl.User) { u.Slots.Main.Count = count })
		for _, size := range []int{0, onePiece, onePiece + 1, maxInner} {
			pieces := (size + 8 + sizeOfPiece - 1) / sizeOfPiece
			next, packets, ok := checkSendInnerLike(t, u, 3, hubId, innerOf(1, 2, strings.Repeat("z", size)))
			if ok != (count+pieces <= 12) {
				t.Errorf("at Count %d, %d bytes are sent: %v", count, size, ok)
			}
			if ok && (next.Slots.Main.Count != count+pieces || packets[0].Num != count+1 || next.Ids != 1) {
				t.Errorf("at Count %d, %d bytes go out as %#v, and then there is %#v", count, size, packets, next)
			}
			if !ok && (next.Slots.Main.Count != count || next.Ids != 0) {
				t.Errorf("at Count %d nothing goes out, and then there is %#v", count, next)
			}
		}
	}
	checkNotSent(t, impl.User{}, 3, hubId, innerOf(1, 2, "x"))
}

func TestUsersOfWrongSlots(t *testing.T) {
	p := hubPacket(3, hubId, 1, "no seal at all")
	for place, s := range wrongPairs() {
		if place%7 != 0 {
			continue
		}
		u := userOf(3, 257, s, fullShelf(), 9)
		checkNotSent(t, u, 3, hubId, innerOf(1, 2, "x"))
		checkPassedOver(t, u, p, 0)
		checkPassedOver(t, u, dataFor(s.Main, 7, pieceOf(0, 0, 1, innerTextLike(innerOf(1, 2, "x")))), 0)
	}
}

// Nothing of a user but Slots and Ids is asked for what is sent.
func TestWrongShelvesSend(t *testing.T) {
	link := linkOf(t)
	for _, h := range wrongShelves() {
		u := userOf(math.MinInt, maxAddr+1, link[0].Slots, h, 3)
		if next, _, ok := checkSendInnerLike(t, u, 3, hubId, innerOf(1, 2, "x")); !ok || !sameShelf(next.Shelf, h) {
			t.Errorf("%#v does not send: %#v", u, next)
		}
	}
}

// sealedFor is what brings a part to that end of the link.
func sealedFor(u impl.User, num, from int, part string) impl.Packet {
	p := dataFor(u.Slots.Main, num, part)
	p.From, p.To = from, hubId
	return p
}

// What a shelf that is not right does not take is noted all the same.
func TestWrongShelvesTakeNothing(t *testing.T) {
	link := linkOf(t)
	text := innerTextLike(innerOf(1, 2, "x"))
	for _, h := range wrongShelves() {
		u := userOf(3, 257, link[1].Slots, h, 3)
		for _, part := range []string{pieceOf(0, 0, 1, text), pieceOf(0, 0, 2, text), "", "x"} {
			want := changedUser(u, func(u *impl.User) { u.Slots.Main.Seen = []int{4} })
			checkTakeData(t, u, sealedFor(u, 4, 3, part), 0, want, impl.Inner{}, false)
		}
	}
}

// What opens and is no piece, or whole and no inner packet, is noted, too.
func TestWhatIsNoInner(t *testing.T) {
	u := linkOf(t)[1]
	notedAt := func(nums ...int) impl.User {
		return changedUser(u, func(u *impl.User) { u.Slots.Main.Seen = nums })
	}
	for _, part := range []string{"", "x", "\x00\x00", "\x00\x00\x00", "\x00\x01\x01abcdefgh", "\x00\x02\x02abcdefgh", "\x00\x00\x10abcdefgh", "\x00\x00\x01", "\x00\x00\x01abcdefg", "\xff\x00\x01\x00\x00\x00\x00\x00\x00\x00"} {
		checkTakeData(t, u, sealedFor(u, 2, 3, part), 0, notedAt(2), impl.Inner{}, false)
	}
	checkTakeData(t, u, sealedFor(u, 2, 3, "\x00\x00\x01abcdefgh"), 0, notedAt(2), innerOf(0x61626364, 0x65666768, ""), true)
	for _, parts := range [][]string{{"", ""}, {"abc", "defg"}, {"abcdefg", ""}, {strings.Repeat("z", 100), strings.Repeat("z", 9)}, {strings.Repeat("z", 101), strings.Repeat("z", 101)}} {
		held := notedAt(1)
		held.Shelf = shelfOf(firstOf(3, 9, 2, holdTime, parts[0]))
		checkTakeData(t, u, sealedFor(u, 1, 3, pieceOf(9, 0, 2, parts[0])), 0, held, impl.Inner{}, false)
		checkTakeData(t, held, sealedFor(u, 2, 3, pieceOf(9, 1, 2, parts[1])), 0, notedAt(2, 1), impl.Inner{}, false)
	}
	eight := changedUser(u, func(u *impl.User) {
		u.Slots.Main.Seen, u.Shelf = []int{1}, shelfOf(firstOf(3, 9, 2, holdTime, "abc"))
	})
	checkTakeData(t, eight, sealedFor(u, 2, 3, pieceOf(9, 1, 2, "defgh")), 0, notedAt(2, 1), innerOf(0x61626364, 0x65666768, ""), true)
	most := strings.Repeat("z", 99)
	full := changedUser(u, func(u *impl.User) {
		u.Slots.Main.Seen, u.Shelf = []int{1}, shelfOf(firstOf(3, 9, 2, holdTime, most))
	})
	checkTakeData(t, full, sealedFor(u, 2, 3, pieceOf(9, 1, 2, most[:9])), 0, notedAt(2, 1), innerOf(0x7a7a7a7a, 0x7a7a7a7a, strings.Repeat("z", 100)), true)
}

// A time at which nothing may be held is one at which data is opened.
func TestTimesOfTakenData(t *testing.T) {
	link := linkOf(t)
	x := innerOf(1, 2, "x")
	_, packets, _ := sendInnerLike(link[0], 3, hubId, x)
	for _, now := range holdTimesOutside() {
		want := changedUser(link[1], func(u *impl.User) { u.Slots.Main.Seen = []int{1} })
		checkTakeData(t, link[1], packets[0], now, want, impl.Inner{}, false)
	}
	for _, now := range []int{0, 1, 8, lastHold - 1, lastHold} {
		checkArrives(t, link[1], packets, now, x)
		_, long, _ := sendInnerLike(link[0], 3, hubId, innerOf(1, 2, strings.Repeat("z", maxInner)))
		held, _, _ := checkTakeDataLike(t, link[1], long[1], now)
		if len(held.Shelf.List) != 1 || held.Shelf.List[0].Until != now+8 {
			t.Errorf("at %d there is held %#v", now, held.Shelf)
		}
	}
}

func TestWrongDataIsNotTaken(t *testing.T) {
	h := busyHub()
	for _, u := range h.Users[:2] {
		for _, p := range wrongDatas(u.Slots) {
			checkPassedOver(t, u, p, 0)
		}
	}
	for _, u := range []impl.User{{}, userOf(3, 257, impl.Slots{}, fullShelf(), 4)} {
		checkPassedOver(t, u, hubPacket(3, hubId, 1, "x"), 0)
		checkPassedOver(t, u, impl.Packet{}, 0)
	}
}

// Who takes packets of another one is refused, and so is whose they are.
func TestPacketsOfAnotherLink(t *testing.T) {
	h, owns := newHub(t, 3, 5, 7)
	x := innerOf(257, 258, strings.Repeat("z", maxInner))
	for whose, own := range owns {
		_, up, _ := checkSendInnerLike(t, own, own.Id, hubId, x)
		_, down, _ := checkSendInnerLike(t, h.Users[whose], hubId, own.Id, x)
		for other := range owns {
			if other == whose {
				checkArrives(t, h.Users[other], up, 0, x)
				checkArrives(t, owns[other], down, 0, x)
				continue
			}
			for _, p := range slices.Concat(up, down) {
				checkPassedOver(t, h.Users[other], p, 0)
				checkPassedOver(t, owns[other], p, 0)
				p.From, p.To = owns[other].Id, hubId
				checkPassedOver(t, h.Users[other], p, 0)
			}
		}
		for place := range up {
			checkPassedOver(t, own, up[place], 0)
			checkPassedOver(t, h.Users[whose], down[place], 0)
		}
	}
}

func TestSpoiltDataIsNotTaken(t *testing.T) {
	link := linkOf(t)
	_, packets, _ := sendInnerLike(link[0], 3, hubId, innerOf(1, 2, strings.Repeat("z", maxInner)))
	for _, p := range packets {
		for place := range p.Body {
			spoilt := p
			body := []byte(p.Body)
			body[place] ^= 0x40
			spoilt.Body = string(body)
			checkPassedOver(t, link[1], spoilt, 0)
			spoilt.Body = p.Body[:place]
			checkPassedOver(t, link[1], spoilt, 0)
		}
		for _, num := range []int{0, 1, 2, 3, 12, mostNum} {
			spoilt := p
			spoilt.Num = num
			if num != p.Num {
				checkPassedOver(t, link[1], spoilt, 0)
			}
		}
	}
}

// From tells whose the piece is: that of another one is held for itself.
func TestPiecesOfOtherFroms(t *testing.T) {
	link := linkOf(t)
	x := innerOf(1, 2, strings.Repeat("z", maxInner))
	_, packets, _ := sendInnerLike(link[0], 3, hubId, x)
	packets[1].From = 4
	u, _, _ := checkTakeDataLike(t, link[1], packets[0], 0)
	u, _, ok := checkTakeDataLike(t, u, packets[1], 1)
	if text := innerTextLike(x); ok || !sameShelf(u.Shelf, shelfOf(firstOf(3, 0, 2, 8, text[:60]), heldOf(4, 0, 2, 9, map[int]string{1: text[60:]}))) {
		t.Errorf("of two Froms there is held %#v, %v", u.Shelf, ok)
	}
}

// Twice, turned and late: each inner packet comes once, whatever comes of it.
func TestPiecesInEveryOrder(t *testing.T) {
	link := linkOf(t)
	one, two := innerOf(1, 2, strings.Repeat("o", maxInner)), innerOf(3, 4, strings.Repeat("t", maxInner))
	next, first, _ := sendInnerLike(link[0], 3, hubId, one)
	_, second, _ := sendInnerLike(next, 3, hubId, two)
	all := slices.Concat(first, second)
	eachOrder(4, nil, func(order []int) {
		u := link[1]
		came := map[impl.Inner]int{}
		for range 2 {
			for _, number := range order {
				got, x, ok := checkTakeDataLike(t, u, all[number-1], 0)
				if ok {
					came[x]++
				}
				u = got
			}
		}
		if len(came) != 2 || came[one] != 1 || came[two] != 1 || len(u.Shelf.List) != 0 {
			t.Errorf("in the order %v there came %v, and is held %#v", order, came, u.Shelf)
		}
	})
}

// A number that is too old by then takes its inner packet with it.
func TestALatePiece(t *testing.T) {
	link := linkOf(t)
	x := innerOf(1, 2, strings.Repeat("o", maxInner))
	own, packets, _ := sendInnerLike(link[0], 3, hubId, x)
	for late := range 8 {
		u, sender := link[1], own
		for place := range late {
			next, short, _ := sendInnerLike(sender, 3, hubId, innerOf(5, 6, impl.Decimal(place)))
			u, sender = checkArrives(t, u, short, 0, innerOf(5, 6, impl.Decimal(place))), next
		}
		u, _, first := checkTakeDataLike(t, u, packets[0], 0)
		_, y, ok := checkTakeDataLike(t, u, packets[1], 0)
		if first || ok != (late < 5) || ok && y != x {
			t.Errorf("%d packets late there comes %#v, %v", late, y, ok)
		}
	}
}

func TestDataAroundAStepOfALink(t *testing.T) {
	link := linkOf(t)
	x := innerOf(1, 2, strings.Repeat("o", maxInner))
	_, packets, _ := sendInnerLike(link[0], 3, hubId, x)
	stepped := link[1]
	for steps := range 4 {
		for _, now := range []int{0, 9, 10, 11} {
			u, _, first := checkTakeDataLike(t, stepped, packets[0], now)
			_, y, ok := checkTakeDataLike(t, u, packets[1], now)
			if first || ok != (steps == 0 || steps == 1 && now < 10) || ok && y != x {
				t.Errorf("behind %d steps at %d there comes %#v, %v", steps, now, y, ok)
			}
		}
		stepped.Slots, _ = stepBothLike(stepped.Slots, 0)
	}
	ahead := link[0]
	ahead.Slots, _ = stepBothLike(ahead.Slots, 0)
	_, early, _ := checkSendInnerLike(t, ahead, 3, hubId, x)
	checkPassedOver(t, link[1], early[0], 0)
	both := link[1]
	both.Slots, _ = stepBothLike(both.Slots, 0)
	checkArrives(t, both, early, 0, x)
	half, _, _ := checkTakeDataLike(t, both, packets[0], 0)
	if done, y, ok := checkTakeDataLike(t, half, early[1], 0); !ok || y != x || len(done.Shelf.List) != 0 {
		t.Errorf("of both Epochs there comes %#v, %v, and %#v", y, ok, done)
	}
}

// What is over is gone by TidyShelf alone; a fourth one lets the first one go.
func TestWhatIsHeldOfALink(t *testing.T) {
	link := linkOf(t)
	var halves, rests []impl.Packet
	u, own := link[1], link[0]
	for place := range 4 {
		next, packets, _ := sendInnerLike(own, 3, hubId, innerOf(place, 2, strings.Repeat("o", maxInner)))
		own, halves, rests = next, append(halves, packets[0]), append(rests, packets[1])
		u, _, _ = checkTakeDataLike(t, u, halves[place], place)
	}
	if len(u.Shelf.List) != 3 || u.Shelf.List[0].Id != 1 || u.Slots.Main.Seen[0] != 7 {
		t.Errorf("there is held %#v", u)
	}
	for place, p := range rests {
		next, x, ok := checkTakeDataLike(t, u, p, 500)
		if want := place > 0; ok != (want && p.Num > 1) || ok && x.Src != place {
			t.Errorf("at %d there comes %#v, %v", place, x, ok)
		}
		tidy := changedUser(u, func(u *impl.User) { u.Shelf = impl.TidyShelf(u.Shelf, 9) })
		if _, x, ok := checkTakeDataLike(t, tidy, p, 9); ok != (place >= 2) || ok && x.Src != place {
			t.Errorf("tidy at 9, of %d there comes %#v, %v", place, x, ok)
		}
		checkPassedOver(t, next, p, 500)
	}
}

// A whole way: up to the hub, and down to who is nearest.
func TestInnersAreHandedOn(t *testing.T) {
	h, owns := newHub(t, 3, 5, 7)
	h, _ = checkAddNetLike(t, h, 7, impl.Prefix{Addr: 1024, Len: 24})
	for from, own := range owns {
		for _, dst := range []int{257, 258, 259, 1024, 1279} {
			to := slices.Index([]int{3, 5, 7}, lookUpLike(h.Routes, dst))
			x := innerOf(own.Addr, dst, strings.Repeat("y", maxInner))
			_, up, _ := checkSendInnerLike(t, own, own.Id, hubId, x)
			hub := cloneHub(h)
			hub.Users[from] = checkArrives(t, hub.Users[from], up, 3, x)
			checkAllowed(t, hub, own.Id, x, true)
			checkTarget(t, hub, x, owns[to].Id)
			next, down, ok := checkSendInnerLike(t, hub.Users[to], hubId, owns[to].Id, x)
			hub.Users[to] = next
			if !ok || !hubRightLike(hub) {
				t.Fatalf("%#v does not hand on %#v", hub, x)
			}
			checkArrives(t, owns[to], down, 3, x)
			checkAllowed(t, hub, own.Id, innerOf(owns[(from+1)%3].Addr, dst, ""), false)
		}
	}
}

func TestDrawnLivesOfHubs(t *testing.T) {
	draw := rand.New(rand.NewSource(284))
	counts := map[string]int{}
	count := func(what string, ok bool) {
		if !ok {
			what = "no " + what
		}
		counts[what]++
	}
	for range 120 {
		net := []impl.Prefix{hubNet, smallNet, prefixLike(maxAddr, 29)}[draw.Intn(3)]
		h := checkHubNew(t, net, true)
		h.Pool.Fixes = drawnFixes(draw, net)
		now := draw.Intn(50)
		for range 60 {
			id := near(draw, 1, 6)
			var ok bool
			switch draw.Intn(5) {
			case 0:
				h, ok = checkLeaveLike(t, h, id)
				count("leave", ok)
			case 1, 2:
				h, ok = checkAddNetLike(t, h, id, []impl.Prefix{drawnPrefix(draw), {Addr: net.Addr + near(draw, 1, 4), Len: 32}}[draw.Intn(2)])
				count("net", ok)
			default:
				h, _, ok = checkJoinLike(t, h, id, seedOf(draw.Intn(5)), now)
				count("join", ok)
			}
			if !hubRightLike(h) {
				t.Fatalf("%#v came to be", h)
			}
			checkRouted(t, h, []int{net.Addr + draw.Intn(5), drawnPrefix(draw).Addr}[draw.Intn(2)])
			now += draw.Intn(6)
		}
	}
	for _, what := range []string{"leave", "net", "join", "no leave", "no net", "no join"} {
		if counts[what] < 300 {
			t.Errorf("only %d times: %s", counts[what], what)
		}
	}
}

func drawnHub(draw *rand.Rand) impl.Hub {
	h := hubOf(poolOf(hubNet, nil, drawnFixes(draw, hubNet)), drawnRoutes(draw.Int63(), draw.Intn(maxRoutes+1)))
	for place := range h.Routes {
		h.Routes[place].To = near(draw, 1, 6)
	}
	for place := range near(draw, 0, maxLeases) {
		h.Pool.Leases = append(h.Pool.Leases, impl.Lease{Addr: 257 + place*draw.Intn(3), Who: near(draw, 1, 9), Until: near(draw, 0, 30)})
	}
	for range near(draw, 0, maxUsers) {
		h.Users = append(h.Users, userOf(near(draw, 1, 9), near(draw, 256, 270), slotsOf(drawnSlot(draw), impl.Slot{}), drawnShelf(draw), draw.Intn(600)-40))
	}
	return h
}

func TestDrawnHubs(t *testing.T) {
	draw := rand.New(rand.NewSource(285))
	joined, left, added := 0, 0, 0
	for range 4000 {
		h := drawnHub(draw)
		id := near(draw, 1, 9)
		if _, _, ok := checkJoinLike(t, h, id, "s", near(draw, 0, 30)); ok {
			joined++
		}
		if _, ok := checkLeaveLike(t, h, id); ok {
			left++
		}
		if _, ok := checkAddNetLike(t, h, id, drawnPrefix(draw)); ok {
			added++
		}
		a := drawnPrefix(draw).Addr
		checkAllowed(t, h, id, innerOf(a, 0, "x"), lookUpLike(h.Routes, a) == id)
		checkTarget(t, h, innerOf(0, a, "x"), lookUpLike(h.Routes, a))
	}
	if joined < 300 || left < 300 || added < 300 {
		t.Errorf("only %d joins, %d leaves, %d nets", joined, left, added)
	}
}

func drawnUser(draw *rand.Rand) impl.User {
	s := slotsOf(drawnSlot(draw), drawnSlot(draw))
	if s.Lame.Epoch >= s.Main.Epoch && draw.Intn(8) > 0 {
		s.Main, s.Lame = s.Lame, impl.Slot{}
	}
	return userOf(near(draw, 1, lastUser), near(draw, 0, maxAddr), s, drawnShelf(draw), draw.Intn(600)-40)
}

// drawnCarrier is mostly of a part that is for a held one, and mostly sealed
// for the user.
func drawnCarrier(draw *rand.Rand, u impl.User) impl.Packet {
	from, part := drawnPart(draw, u.Shelf)
	if draw.Intn(4) == 0 {
		part = pieceOf(draw.Intn(256), 0, 1, innerTextLike(drawnInner(draw)))
	}
	if draw.Intn(12) == 0 {
		return drawnData(draw, u.Slots)
	}
	slot := []impl.Slot{u.Slots.Main, u.Slots.Main, u.Slots.Lame}[draw.Intn(3)]
	p := dataFor(slot, near(draw, 1, 16), part[:min(len(part), mostSealed)])
	p.From = from
	return p
}

func TestDrawnUsers(t *testing.T) {
	draw := rand.New(rand.NewSource(286))
	sent, came, held := 0, 0, 0
	for range 8000 {
		u := drawnUser(draw)
		if _, _, ok := checkSendInnerLike(t, u, near(draw, 1, hubId), near(draw, 1, hubId), drawnInner(draw)); ok {
			sent++
		}
		next, _, ok := checkTakeDataLike(t, u, drawnCarrier(draw, u), near(draw, 0, 30))
		if ok {
			came++
		}
		if !ok && !sameUser(next, u) {
			held++
		}
	}
	if sent < 1000 || came < 300 || held < 1000 {
		t.Errorf("only %d were sent, %d came, %d were held or noted", sent, came, held)
	}
}

// carrying is a packet under way to one end of a link, and of what it is.
type carrying struct {
	to   int
	said int
	p    impl.Packet
}

// innerLife is the ends of a link, the user's own first, what is under way
// between them, what was said, and how often it came.
type innerLife struct {
	ends [2]impl.User
	way  []carrying
	said []impl.Inner
	came []int
	now  int
}

func (life *innerLife) say(t *testing.T, from int, size int) {
	ids := [2]int{3, hubId}
	x := innerOf(len(life.said), 257, strings.Repeat("y", size))
	next, packets, ok := checkSendInnerLike(t, life.ends[from], ids[from], ids[1-from], x)
	life.ends[from] = next
	if !ok {
		return
	}
	for _, p := range packets {
		life.way = append(life.way, carrying{to: 1 - from, said: len(life.said), p: p})
	}
	life.said, life.came = append(life.said, x), append(life.came, 0)
}

func (life *innerLife) take(t *testing.T, at int) {
	c := life.way[at]
	next, x, ok := checkTakeDataLike(t, life.ends[c.to], c.p, life.now)
	life.ends[c.to] = next
	if ok && x != life.said[c.said] {
		t.Errorf("%#v brings %#v; said was %#v", c, x, life.said[c.said])
	}
	if ok {
		life.came[c.said]++
	}
}

func (life *innerLife) pass(t *testing.T, span int) {
	life.now += span
	for place := range life.ends {
		end := &life.ends[place]
		end.Slots, end.Shelf = impl.TidySlots(end.Slots, life.now), impl.TidyShelf(end.Shelf, life.now)
	}
}

func (life *innerLife) step(t *testing.T, place int) {
	next, ok := impl.StepBoth(life.ends[place].Slots, life.now)
	if !ok {
		t.Errorf("%#v does not step", life.ends[place])
	}
	life.ends[place].Slots = next
}

// Nothing comes that was not said, nor more often.
func TestDrawnLivesOfALink(t *testing.T) {
	draw := rand.New(rand.NewSource(287))
	came, never := 0, 0
	for range 100 {
		life := &innerLife{ends: linkOf(t)}
		for range 120 {
			kind, size := draw.Intn(12), len(life.way)
			switch {
			case kind < 3 || size == 0:
				life.say(t, draw.Intn(2), draw.Intn(maxInner+1))
			case kind < 9:
				at := min(draw.Intn(size), draw.Intn(size))
				life.take(t, at)
				if kind < 8 {
					life.way = slices.Delete(life.way, at, at+1)
				}
			case kind == 9 && draw.Intn(2) == 0:
				at := draw.Intn(size)
				life.way = slices.Delete(life.way, at, at+1)
			case kind == 10:
				life.pass(t, draw.Intn(3))
			case kind == 11:
				life.step(t, 0)
				life.step(t, 1)
			}
		}
		for place, times := range life.came {
			if times > 1 {
				t.Errorf("%#v came %d times", life.said[place], times)
			}
			came, never = came+times, never+1-times
		}
	}
	if came < 600 || never < 200 {
		t.Errorf("%d came, %d never", came, never)
	}
}

// When nothing is lost or late, all comes, in order.
func TestAllInnersComeInOrder(t *testing.T) {
	life := &innerLife{ends: linkOf(t)}
	for round := range 60 {
		for from := range life.ends {
			for number := range 6 {
				life.say(t, from, (round*7+number*17)%(maxInner+1))
			}
			for range life.way {
				life.take(t, 0)
				life.way = life.way[1:]
			}
		}
		life.step(t, 0)
		life.step(t, 1)
		life.pass(t, 3)
	}
	if len(life.said) != 60*2*6 || slices.ContainsFunc(life.came, func(times int) bool { return times != 1 }) {
		t.Errorf("%d were said, and came %v times", len(life.said), life.came)
	}
	for _, end := range life.ends {
		if end.Ids != 60*6 || len(end.Shelf.List) != 0 || end.Slots.Main.Epoch != 61 {
			t.Errorf("the end is %#v", end)
		}
	}
}

// Lists of an argument may be one: those of an answer are not, even then.
func TestHubsOfOneMemory(t *testing.T) {
	seen := []int{9, 8, 6, -5, -5}
	held := []impl.Held{firstOf(1, 7, 2, 9, "x"), spareHeld}
	slot := changedSlot(slotAt(5, 3, 4), func(s *impl.Slot) { s.Seen = seen[:3] })
	lame := changedSlot(slotAt(4, 3, 20), func(s *impl.Slot) { s.Seen = seen[:3] })
	slot.Seen, lame.Seen = seen[:3], seen[:3]
	one := userOf(3, 300, slotsOf(slot, lame), impl.Shelf{List: held[:1]}, 5)
	users := []impl.User{one, one, spareUser}
	users[1].Id = 7
	h := hubOf(poolOf(hubNet, leasesOf([3]int{300, 3, 9}), nil), []impl.Route{routeAt(300, 32, 3)}, users[:2]...)
	h.Users = users[:2]
	were, wereSeen := cloneHub(h), slices.Clone(seen)
	joined, own, ok := impl.Join(h, 5, "s", 0)
	refused, _, not := impl.Join(h, 3, "s", 0)
	left, went := impl.Leave(h, 7)
	added, put := impl.AddNet(h, 7, impl.Prefix{})
	if !ok || not || !went || !put || len(joined.Users) != 3 || len(left.Users) != 1 || len(added.Routes) != 2 {
		t.Errorf("of one memory there come %#v, %#v, %#v", joined, left, added)
	}
	given := append(listsOfHub(h, true), memoryOf(users, true, "Users"), memoryOf(held, true, "List"), memoryOf(seen, true, "Seen"))
	for _, got := range []impl.Hub{joined, refused, left, added} {
		checkDisjoint(t, "a hub of one memory", slices.Concat(given, listsOfHub(got, false), listsOfUser(own, false)), false)
		fillHub(got)
	}
	sent, _, _ := impl.SendInner(one, 3, hubId, impl.Inner{})
	took, _, _ := impl.TakeData(one, sealedFor(one, 7, 1, pieceOf(7, 1, 2, "y")), 0)
	for _, got := range []impl.User{sent, took} {
		checkDisjoint(t, "a user of one memory", slices.Concat(given, listsOfUser(got, false)), false)
		fillUser(got)
	}
	if !sameHub(h, were) || !slices.Equal(seen, wereSeen) || !sameUser(users[2], spareUser) {
		t.Errorf("%#v, %v is written into; it was %#v, %v", h, seen, were, wereSeen)
	}
}

func TestTwoAnswersOfHubsShareNothing(t *testing.T) {
	for _, h := range append(wrongHubs()[:6], impl.Hub{}, busyHub()) {
		var lists []memory
		for range 2 {
			for _, id := range []int{0, 3, 5, 12, 98} {
				joined, own, _ := impl.Join(h, id, "s", 0)
				left, _ := impl.Leave(h, id)
				added, _ := impl.AddNet(h, id, impl.Prefix{Addr: 2048, Len: 24})
				lists = slices.Concat(lists, listsOfHub(joined, false), listsOfUser(own, false), listsOfHub(left, false), listsOfHub(added, false))
			}
			for _, u := range h.Users {
				sent, packets, _ := impl.SendInner(u, 3, hubId, impl.Inner{})
				not, none, _ := impl.SendInner(u, 0, hubId, impl.Inner{})
				took, _, _ := impl.TakeData(u, sealedFor(u, 7, 3, pieceOf(1, 1, 2, "y")), 0)
				passed, _, _ := impl.TakeData(u, impl.Packet{}, 0)
				lists = append(lists, memoryOf(packets, false, "packets"), memoryOf(none, false, "packets"))
				for _, got := range []impl.User{sent, not, took, passed} {
					lists = append(lists, listsOfUser(got, false)...)
				}
			}
		}
		checkDisjoint(t, "hubs", lists, false)
	}
}

func TestRefusalsOfHubsLeaveNothingBehind(t *testing.T) {
	h, owns := newHub(t, 3, 5)
	x := innerOf(257, 258, "hi")
	_, packets, _ := sendInnerLike(owns[0], 3, hubId, x)
	for range 3 {
		checkHubNew(t, impl.Prefix{Addr: 257, Len: 24}, false)
		checkNoJoin(t, h, 3, 0)
		checkNoJoin(t, h, 99, 0)
		checkNoJoin(t, h, 7, -1)
		checkJoinLike(t, h, 7, "s", 0)
		checkNoLeave(t, h, 7)
		checkLeaveLike(t, h, 5)
		checkNoNet(t, h, 7, impl.Prefix{Addr: 512, Len: 24})
		checkNoNet(t, h, 3, impl.Prefix{Addr: 513, Len: 24})
		checkAddNetLike(t, h, 3, impl.Prefix{Addr: 512, Len: 24})
		checkNotSent(t, owns[0], 0, hubId, x)
		checkNotSent(t, owns[0], 3, hubId, innerOf(-1, 258, "hi"))
		checkSendInnerLike(t, owns[0], 3, hubId, x)
		checkPassedOver(t, h.Users[1], packets[0], 0)
		checkPassedOver(t, owns[0], packets[0], 0)
		checkTakeDataLike(t, h.Users[0], packets[0], -1)
		checkArrives(t, h.Users[0], packets, 0, x)
		checkAllowed(t, h, 5, x, false)
		checkAllowed(t, h, 3, x, true)
		checkTarget(t, h, x, 5)
	}
}

func TestManyJoinAndLeaveAtOnce(t *testing.T) {
	h := busyHub()
	h.Users = h.Users[:2]
	x := innerOf(257, 300, strings.Repeat("z", maxInner))
	wantJoined, wantOwn, _ := joinLike(h, 5, "s", 9)
	wantLeft, _ := leaveLike(h, 3)
	wantAdded, _ := addNetLike(h, 7, impl.Prefix{Addr: 512, Len: 24})
	wantSent, wantPackets, _ := sendInnerLike(h.Users[1], 7, hubId, x)
	p := sealedFor(h.Users[1], 7, 7, pieceOf(9, 1, 2, "rest"))
	wantTook, _, _ := takeDataLike(h.Users[1], p, 0)
	before := cloneHub(h)
	var all sync.WaitGroup
	for range 16 {
		all.Go(func() {
			for range 60 {
				joined, own, _ := impl.Join(h, 5, "s", 9)
				left, _ := impl.Leave(h, 3)
				added, _ := impl.AddNet(h, 7, impl.Prefix{Addr: 512, Len: 24})
				sent, packets, _ := impl.SendInner(h.Users[1], 7, hubId, x)
				took, _, _ := impl.TakeData(h.Users[1], p, 0)
				if !sameHub(joined, wantJoined) || !sameUser(own, wantOwn) || !sameHub(left, wantLeft) || !sameHub(added, wantAdded) {
					t.Errorf("at once %#v, %#v, %#v, %#v come", joined, own, left, added)
					return
				}
				if !sameUser(sent, wantSent) || !slices.EqualFunc(packets, wantPackets, samePacket) || !sameUser(took, wantTook) {
					t.Errorf("at once %#v, %#v, %#v come", sent, packets, took)
					return
				}
				if !impl.Allowed(h, 7, x) || impl.Allowed(h, 3, x) || impl.TargetOf(h, x) != 3 {
					t.Errorf("at once %#v is routed otherwise", x)
					return
				}
			}
		})
	}
	all.Wait()
	if !sameHub(h, before) {
		t.Errorf("at once %#v is written into; it was %#v", h, before)
	}
}
