package tests

import (
	"math"
	"math/rand"
	"slices"
	"testing"

	"loop.example/g00193/impl"
)

const maxRoutes = 12

func routeAt(addr, size, to int) impl.Route {
	return impl.Route{Prefix: impl.Prefix{Addr: addr, Len: size}, To: to}
}

// inRoom lays a list into a greater room, whose rest is filled with a mark.
func inRoom[T any](list []T, mark T) ([]T, []T) {
	room := slices.Concat(list, slices.Repeat([]T{mark}, 5))
	return room[:len(list)], room
}

func filled[T any](list []T, mark T) {
	whole := list[:cap(list)]
	for place := range whole {
		whole[place] = mark
	}
}

// checkApart writes into the whole of an answer and then into the whole of an
// argument's room: neither may be seen in the other one.
func checkApart[T comparable](t *testing.T, what string, room, before, answer []T, mark T) {
	t.Helper()
	if !slices.Equal(room, before) {
		t.Errorf("%s wrote into its argument: %v; want %v", what, room, before)
	}
	told := slices.Clone(answer)
	filled(answer, mark)
	if !slices.Equal(room, before) {
		t.Errorf("%s answers memory of its argument", what)
	}
	copy(answer, told)
	filled(room, mark)
	if !slices.Equal(answer, told) {
		t.Errorf("%s answers memory of its argument", what)
	}
	copy(room, before)
}

// routesOfNote are lists that are right, and what the chapter names is in them.
func routesOfNote() [][]impl.Route {
	var oneAddr, oneTo []impl.Route
	for place := range maxRoutes {
		oneAddr = append(oneAddr, routeAt(1<<31, []int{1, 2, 3, 8, 15, 16, 17, 24, 29, 30, 31, 32}[place], place+1))
		oneTo = append(oneTo, routeAt(place*256, 24, 7))
	}
	return [][]impl.Route{
		nil,
		{},
		{routeAt(0, 0, 1)},
		{routeAt(0, 0, 99)},
		{routeAt(0, 32, 50)},
		{routeAt(maxAddr, 32, 99)},
		{routeAt(0, 0, 1), routeAt(0, 32, 99)},
		{routeAt(0, 0, 1), routeAt(0, 1, 2), routeAt(0, 31, 3), routeAt(0, 32, 4)},
		{routeAt(0, 0, 5), routeAt(maxAddr, 32, 6)},
		{routeAt(0, 1, 1), routeAt(1<<31, 1, 2)},
		{routeAt(167772160, 8, 1), routeAt(167772160, 24, 2)},
		{routeAt(0, 0, 9), routeAt(167772160, 8, 1), routeAt(167772416, 24, 2), routeAt(167772416, 32, 3), routeAt(167772418, 32, 1), routeAt(167772544, 25, 4)},
		oneAddr,
		oneTo,
		drawnRoutes(131, maxRoutes),
	}
}

// drawnPrefix is often of one of few addresses, so that many have each other.
func drawnPrefix(draw *rand.Rand) impl.Prefix {
	few := []int{0, 167772418, 1 << 31, maxAddr}
	return prefixLike(few[draw.Intn(len(few))]^draw.Intn(2)<<draw.Intn(maxLen), draw.Intn(maxLen+1))
}

func drawnRoutes(seed int64, size int) []impl.Route {
	draw := rand.New(rand.NewSource(seed))
	var list []impl.Route
	for len(list) < size {
		r := impl.Route{Prefix: drawnPrefix(draw), To: draw.Intn(99) + 1}
		list, _ = putLike(list, r)
	}
	return list
}

func prefixRightLike(p impl.Prefix) bool {
	return p.Len >= 0 && p.Len <= maxLen && p.Addr >= 0 && p.Addr <= maxAddr && p.Addr%(1<<(maxLen-p.Len)) == 0
}

func isLessLike(p, q impl.Prefix) bool {
	return p.Addr < q.Addr || p.Addr == q.Addr && p.Len < q.Len
}

func routesRightLike(list []impl.Route) bool {
	for place, r := range list {
		if !prefixRightLike(r.Prefix) || r.To < 1 || r.To > 99 {
			return false
		}
		for _, other := range list[:place] {
			if !isLessLike(other.Prefix, r.Prefix) {
				return false
			}
		}
	}
	return len(list) <= maxRoutes
}

// putLike looks for the place of the route from the first one on.
func putLike(list []impl.Route, r impl.Route) ([]impl.Route, bool) {
	place := 0
	for place < len(list) && isLessLike(list[place].Prefix, r.Prefix) {
		place++
	}
	behind := place
	if place < len(list) && list[place].Prefix == r.Prefix {
		behind++
	}
	next := slices.Concat(list[:place], []impl.Route{r}, list[behind:])
	if !routesRightLike(list) || !routesRightLike(next) {
		return list, false
	}
	return next, true
}

func dropLike(list []impl.Route, p impl.Prefix) ([]impl.Route, bool) {
	if !routesRightLike(list) {
		return list, false
	}
	for place, r := range list {
		if r.Prefix == p {
			return slices.Concat(list[:place], list[place+1:]), true
		}
	}
	return list, false
}

// lookUpLike asks every route, by the ends of its prefix.
func lookUpLike(list []impl.Route, a int) int {
	best := routeAt(0, -1, 0)
	if !routesRightLike(list) {
		return 0
	}
	for _, r := range list {
		if a >= r.Prefix.Addr && a <= lastOf(r.Prefix) && r.Prefix.Len > best.Prefix.Len {
			best = r
		}
	}
	return best.To
}

func dropToLike(list []impl.Route, to int) []impl.Route {
	var left []impl.Route
	for _, r := range list {
		if r.To != to {
			left = append(left, r)
		}
	}
	return left
}

var spareRoute = routeAt(77, 77, 77)

func checkRoutes(t *testing.T, list []impl.Route, want bool) {
	t.Helper()
	lent, room := inRoom(list, spareRoute)
	before := slices.Clone(room)
	if got := impl.RoutesOk(lent); got != want {
		t.Errorf("RoutesOk(%v) = %v; want %v", list, got, want)
	}
	if !slices.Equal(room, before) {
		t.Errorf("RoutesOk(%v) wrote into its argument", list)
	}
}

func checkPut(t *testing.T, list []impl.Route, r impl.Route, want []impl.Route, right bool) {
	t.Helper()
	lent, room := inRoom(list, spareRoute)
	before := slices.Clone(room)
	got, ok := impl.PutRoute(lent, r)
	if !slices.Equal(got, want) || ok != right {
		t.Errorf("PutRoute(%v, %v) = %v, %v; want %v, %v", list, r, got, ok, want, right)
	}
	checkApart(t, "PutRoute", room, before, got, spareRoute)
}

func checkDrop(t *testing.T, list []impl.Route, p impl.Prefix, want []impl.Route, right bool) {
	t.Helper()
	lent, room := inRoom(list, spareRoute)
	before := slices.Clone(room)
	got, ok := impl.DropRoute(lent, p)
	if !slices.Equal(got, want) || ok != right {
		t.Errorf("DropRoute(%v, %v) = %v, %v; want %v, %v", list, p, got, ok, want, right)
	}
	checkApart(t, "DropRoute", room, before, got, spareRoute)
}

func checkLookUp(t *testing.T, list []impl.Route, a, want int) {
	t.Helper()
	lent, room := inRoom(list, spareRoute)
	before := slices.Clone(room)
	if got := impl.LookUp(lent, a); got != want {
		t.Errorf("LookUp(%v, %d) = %d; want %d", list, a, got, want)
	}
	if !slices.Equal(room, before) {
		t.Errorf("LookUp(%v, %d) wrote into its argument", list, a)
	}
}

func checkDropTo(t *testing.T, list []impl.Route, to int, want []impl.Route) {
	t.Helper()
	lent, room := inRoom(list, spareRoute)
	before := slices.Clone(room)
	got := impl.DropTo(lent, to)
	if !slices.Equal(got, want) {
		t.Errorf("DropTo(%v, %d) = %v; want %v", list, to, got, want)
	}
	checkApart(t, "DropTo", room, before, got, spareRoute)
}

// checkFoundByAll asks at the ends of every prefix, and just outside of them.
func checkFoundByAll(t *testing.T, list []impl.Route) {
	t.Helper()
	addrs := []int{0, 1, 1 << 31, maxAddr - 1, maxAddr}
	for _, r := range list {
		first, last := r.Prefix.Addr, lastOf(r.Prefix)
		addrs = append(addrs, first, last, first-1, last+1, first+(last-first)/2)
	}
	for _, a := range addrs {
		checkLookUp(t, list, a, lookUpLike(list, a))
	}
}

func tosOutside() []int {
	return []int{0, 100, -1, -99, 101, 256 + 1, 1<<32 + 1, math.MinInt, math.MinInt + 1, math.MaxInt}
}

func wrongPrefixes() []impl.Prefix {
	list := []impl.Prefix{{Addr: 1, Len: 0}, {Addr: 1, Len: 31}, {Addr: 167772418, Len: 24}, {Addr: 1 << 31, Len: 0}, {Addr: maxAddr, Len: 31}}
	for _, a := range addrsOutside() {
		list = append(list, impl.Prefix{Addr: a, Len: 32}, impl.Prefix{Addr: a, Len: 0})
	}
	for _, n := range lensOutside() {
		list = append(list, impl.Prefix{Len: n}, impl.Prefix{Addr: 1 << 31, Len: n})
	}
	return list
}

// wrongRoutes are lists that are wrong in just one thing each.
func wrongRoutes() [][]impl.Route {
	lists := [][]impl.Route{
		{routeAt(0, 0, 1), routeAt(0, 0, 1)},
		{routeAt(0, 0, 1), routeAt(0, 0, 2)},
		{routeAt(0, 32, 1), routeAt(0, 0, 2)},
		{routeAt(0, 24, 1), routeAt(0, 8, 2)},
		{routeAt(167772160, 24, 1), routeAt(0, 32, 2)},
		{routeAt(0, 0, 1), routeAt(167772160, 8, 2), routeAt(167772160, 8, 3)},
		{routeAt(0, 0, 1), routeAt(167772160, 8, 2), routeAt(0, 32, 3)},
		{routeAt(0, 1, 1), routeAt(1<<31, 1, 2), routeAt(1<<31, 32, 3), routeAt(1<<31, 31, 4)},
	}
	for _, to := range tosOutside() {
		lists = append(lists, []impl.Route{routeAt(0, 0, to)}, []impl.Route{routeAt(0, 0, 1), routeAt(167772160, 8, to), routeAt(maxAddr, 32, 2)})
	}
	for _, p := range wrongPrefixes() {
		wrong := impl.Route{Prefix: p, To: 1}
		lists = append(lists, []impl.Route{wrong}, []impl.Route{routeAt(0, 0, 3), wrong}, []impl.Route{wrong, routeAt(maxAddr, 32, 4)})
	}
	for size := maxRoutes + 1; size < maxRoutes+4; size++ {
		var many []impl.Route
		for place := range size {
			many = append(many, routeAt(place*256, 24, place+1))
		}
		lists = append(lists, many)
	}
	return lists
}

func TestRoutesOfNoteAreRight(t *testing.T) {
	for _, list := range routesOfNote() {
		checkRoutes(t, list, true)
	}
}

func TestRoutesThatAreNotRight(t *testing.T) {
	for _, list := range wrongRoutes() {
		if routesRightLike(list) {
			t.Fatalf("%v is right", list)
		}
		checkRoutes(t, list, false)
		checkPut(t, list, routeAt(167772160, 24, 5), list, false)
		checkDrop(t, list, impl.Prefix{}, list, false)
		for _, r := range list {
			checkPut(t, list, r, list, false)
			checkDrop(t, list, r.Prefix, list, false)
			checkLookUp(t, list, r.Prefix.Addr, 0)
			checkDropTo(t, list, r.To, dropToLike(list, r.To))
		}
		for _, a := range []int{0, 1, 167772160, 167772418, 1 << 31, maxAddr} {
			checkLookUp(t, list, a, 0)
		}
	}
}

func TestALongListIsNotRight(t *testing.T) {
	list := slices.Repeat([]impl.Route{routeAt(0, 0, 1), routeAt(5, 32, 2)}, 50000)
	checkRoutes(t, list, false)
	checkPut(t, list, routeAt(0, 0, 1), list, false)
	checkDrop(t, list, impl.Prefix{}, list, false)
	checkLookUp(t, list, 5, 0)
	checkDropTo(t, list, 1, slices.Repeat([]impl.Route{routeAt(5, 32, 2)}, 50000))
}

func TestEachToOfARoute(t *testing.T) {
	for to := 1; to <= 99; to++ {
		want := []impl.Route{routeAt(167772416, 24, to)}
		checkRoutes(t, want, true)
		checkPut(t, nil, want[0], want, true)
		checkLookUp(t, want, 167772418, to)
		checkDropTo(t, want, to, nil)
		checkDropTo(t, want, to-1, want)
		checkDropTo(t, want, to+1, want)
	}
}

func TestRoutesOfFixedAnswers(t *testing.T) {
	wide, near, one := routeAt(167772160, 8, 1), routeAt(167772160, 24, 2), routeAt(167772165, 32, 3)
	all := []impl.Route{wide, near, one}
	checkPut(t, nil, near, []impl.Route{near}, true)
	checkPut(t, []impl.Route{near}, wide, []impl.Route{wide, near}, true)
	checkPut(t, []impl.Route{wide, near}, one, all, true)
	checkPut(t, []impl.Route{wide, one}, near, all, true)
	checkPut(t, all, routeAt(167772160, 24, 9), []impl.Route{wide, routeAt(167772160, 24, 9), one}, true)
	for _, c := range []struct{ a, want int }{
		{167772160, 2}, {167772164, 2}, {167772165, 3}, {167772166, 2}, {167772415, 2},
		{167772416, 1}, {167772160 + 300, 1}, {184549375, 1}, {184549376, 0}, {167772159, 0}, {0, 0}, {5, 0}, {maxAddr, 0},
	} {
		checkLookUp(t, all, c.a, c.want)
	}
	checkDrop(t, all, near.Prefix, []impl.Route{wide, one}, true)
	checkDrop(t, all, wide.Prefix, []impl.Route{near, one}, true)
	checkDrop(t, all, one.Prefix, []impl.Route{wide, near}, true)
	checkDrop(t, all, impl.Prefix{Addr: 167772160, Len: 16}, all, false)
	checkDropTo(t, all, 2, []impl.Route{wide, one})
	checkDropTo(t, all, 4, all)
}

func TestNoRoutes(t *testing.T) {
	for _, list := range [][]impl.Route{nil, {}} {
		checkRoutes(t, list, true)
		for _, a := range append(addrsOfNote(), addrsOutside()...) {
			checkLookUp(t, list, a, 0)
		}
		checkDrop(t, list, impl.Prefix{}, nil, false)
		checkDrop(t, list, impl.Prefix{Addr: 5, Len: 32}, nil, false)
		checkDropTo(t, list, 0, nil)
		checkDropTo(t, list, 1, nil)
		checkPut(t, list, routeAt(0, 0, 1), []impl.Route{routeAt(0, 0, 1)}, true)
		checkPut(t, list, routeAt(0, 0, 0), nil, false)
		checkPut(t, list, impl.Route{}, nil, false)
	}
}

func TestRoutesOfOneAddr(t *testing.T) {
	lens := []int{0, 1, 2, 7, 8, 9, 16, 24, 25, 30, 31, 32}
	turned := slices.Clone(lens)
	slices.Reverse(turned)
	for _, order := range [][]int{lens, turned} {
		var list []impl.Route
		for _, n := range order {
			next, ok := impl.PutRoute(list, routeAt(0, n, n+1))
			if !ok || len(next) != len(list)+1 || !impl.RoutesOk(next) {
				t.Fatalf("PutRoute(%v, /%d) = %v, %v", list, n, next, ok)
			}
			list = next
		}
		for _, n := range lens {
			checkLookUp(t, list, lastOf(impl.Prefix{Len: n}), n+1)
			checkDropTo(t, list, n+1, dropToLike(list, n+1))
			left, _ := dropLike(list, impl.Prefix{Len: n})
			checkDrop(t, list, impl.Prefix{Len: n}, left, true)
			checkFoundByAll(t, left)
			checkDrop(t, left, impl.Prefix{Len: n}, left, false)
		}
		checkLookUp(t, list, 0, 33)
		checkLookUp(t, list, 1, 32)
		checkLookUp(t, list, 2, 31)
		checkLookUp(t, list, maxAddr, 1)
		checkDrop(t, list, impl.Prefix{Len: 3}, list, false)
	}
}

func TestEachLenCountsOverTheShorterOnes(t *testing.T) {
	for _, a := range addrsOfNote() {
		for n := range maxLen {
			for longer := n + 1; longer <= maxLen; longer++ {
				list := []impl.Route{{Prefix: prefixLike(a, n), To: 3}, {Prefix: prefixLike(a, longer), To: 2}}
				if got := impl.LookUp(list, a); got != 2 {
					t.Fatalf("LookUp(%v, %d) = %d; want 2", list, a, got)
				}
				other := a ^ 1<<(maxLen-longer)
				if got := impl.LookUp(list, other); got != 3 {
					t.Fatalf("LookUp(%v, %d) = %d; want 3", list, other, got)
				}
			}
		}
	}
}

func TestTheEndsOfARoute(t *testing.T) {
	for _, a := range addrsOfNote() {
		for n := range maxLen + 1 {
			p := prefixLike(a, n)
			list := []impl.Route{{Prefix: p, To: 42}}
			checkLookUp(t, list, p.Addr, 42)
			checkLookUp(t, list, lastOf(p), 42)
			checkLookUp(t, list, a, 42)
			checkLookUp(t, list, p.Addr-1, 0)
			checkLookUp(t, list, lastOf(p)+1, 0)
		}
	}
}

func TestLookUpOfNoteAndOutside(t *testing.T) {
	for _, list := range routesOfNote() {
		checkFoundByAll(t, list)
		for _, a := range addrsOfNote() {
			checkLookUp(t, list, a, lookUpLike(list, a))
		}
		for _, a := range addrsOutside() {
			checkLookUp(t, list, a, 0)
		}
	}
}

func TestWhatIsPutIsFound(t *testing.T) {
	draw := rand.New(rand.NewSource(133))
	for _, list := range routesOfNote() {
		for range 60 {
			r := impl.Route{Prefix: drawnPrefix(draw), To: draw.Intn(99) + 1}
			want, right := putLike(list, r)
			checkPut(t, list, r, want, right)
			checkRoutes(t, want, true)
			checkFoundByAll(t, want)
		}
	}
}

func TestARouteTakesThePlaceOfItsPrefix(t *testing.T) {
	for _, list := range routesOfNote() {
		for place, r := range list {
			for _, to := range []int{1, 99, r.To} {
				want := slices.Clone(list)
				want[place].To = to
				checkPut(t, list, routeAt(r.Prefix.Addr, r.Prefix.Len, to), want, true)
			}
		}
	}
}

func TestARouteIsPutAheadBetweenAndBehind(t *testing.T) {
	for _, list := range routesOfNote() {
		for place, r := range list {
			left := slices.Concat(list[:place], list[place+1:])
			checkPut(t, left, r, list, true)
			checkDrop(t, list, r.Prefix, left, true)
			checkDrop(t, left, r.Prefix, left, false)
		}
	}
}

func TestTheTwelfthAndTheThirteenthRoute(t *testing.T) {
	for seed := range int64(20) {
		list := drawnRoutes(200+seed, maxRoutes)
		checkRoutes(t, list, true)
		checkPut(t, list[:maxRoutes-1], list[maxRoutes-1], list, true)
		checkPut(t, list[1:], list[0], list, true)
		for _, n := range []int{0, 5, 8, 17, 31, 32} {
			r := impl.Route{Prefix: prefixLike(1431655765, n), To: 5}
			want, right := putLike(list, r)
			checkPut(t, list, r, want, right)
		}
		checkPut(t, list, routeAt(1431655765, 32, 5), list, false)
		for _, r := range list {
			checkPut(t, list, r, list, true)
		}
	}
}

func TestWrongRoutesAreNotPut(t *testing.T) {
	for _, list := range routesOfNote() {
		for _, to := range tosOutside() {
			checkPut(t, list, routeAt(1431655765, 32, to), list, false)
			for _, r := range list {
				checkPut(t, list, routeAt(r.Prefix.Addr, r.Prefix.Len, to), list, false)
			}
		}
		for _, p := range wrongPrefixes() {
			checkPut(t, list, impl.Route{Prefix: p, To: 1}, list, false)
			checkPut(t, list, impl.Route{Prefix: p, To: 0}, list, false)
		}
	}
}

func TestPrefixesThatAreNotThereAreNotDropped(t *testing.T) {
	for _, list := range routesOfNote() {
		for _, p := range wrongPrefixes() {
			checkDrop(t, list, p, list, false)
		}
		for _, a := range addrsOfNote() {
			for _, n := range []int{0, 1, 8, 23, 24, 31, 32} {
				want, right := dropLike(list, prefixLike(a, n))
				checkDrop(t, list, prefixLike(a, n), want, right)
			}
		}
	}
}

func TestDropToLeavesThoseOfOthers(t *testing.T) {
	for _, list := range append(routesOfNote(), wrongRoutes()...) {
		for _, to := range append(tosOutside(), 1, 2, 3, 7, 50, 98, 99) {
			checkDropTo(t, list, to, dropToLike(list, to))
		}
	}
	same := []impl.Route{routeAt(5, 32, 1), routeAt(5, 32, 2), routeAt(0, 0, 1), routeAt(5, 32, 2), routeAt(-1, 99, 0), routeAt(5, 32, 1)}
	checkDropTo(t, same, 1, []impl.Route{same[1], same[3], same[4]})
	checkDropTo(t, same, 0, []impl.Route{same[0], same[1], same[2], same[3], same[5]})
	checkDropTo(t, same, 9, same)
}

func TestADrawnLifeOfRoutes(t *testing.T) {
	draw := rand.New(rand.NewSource(134))
	for range 60 {
		var list, like []impl.Route
		for range 60 {
			p := drawnPrefix(draw)
			if len(list) > 0 && draw.Intn(3) == 0 {
				p = list[draw.Intn(len(list))].Prefix
			}
			var got, want []impl.Route
			var ok, right bool
			switch draw.Intn(5) {
			case 0:
				got, ok = impl.DropRoute(list, p)
				want, right = dropLike(like, p)
			case 1:
				to := draw.Intn(9)
				got, want = impl.DropTo(list, to), dropToLike(like, to)
			default:
				r := impl.Route{Prefix: p, To: draw.Intn(9)}
				got, ok = impl.PutRoute(list, r)
				want, right = putLike(like, r)
			}
			if !slices.Equal(got, want) || ok != right || !impl.RoutesOk(got) {
				t.Fatalf("of %v comes %v, %v; want %v, %v", list, got, ok, want, right)
			}
			list, like = got, want
		}
		checkFoundByAll(t, list)
	}
}

func TestRefusedRoutesLeaveNothingBehind(t *testing.T) {
	list := drawnRoutes(135, maxRoutes)
	for range 3 {
		checkPut(t, list, routeAt(1431655765, 32, 5), list, false)
		checkPut(t, list[:3], routeAt(1431655765, 32, 100), list[:3], false)
		checkDrop(t, list, impl.Prefix{Addr: 1431655765, Len: 32}, list, false)
		checkLookUp(t, list, -1, 0)
		checkRoutes(t, list, true)
		checkFoundByAll(t, list)
		checkPut(t, nil, routeAt(0, 0, 1), []impl.Route{routeAt(0, 0, 1)}, true)
	}
}
