package tests

import (
	"math"
	"math/rand"
	"slices"
	"testing"

	"loop.example/g00193/impl"
)

const (
	maxLeases = 6
	leaseTime = 20
	mostFixes = 4
	mostNow   = 999999980
	mostUntil = 1000000000
)

var (
	spareLease = impl.Lease{Addr: 77, Who: 77, Until: 77}
	spareFixed = impl.Fixed{Who: 77, Addr: 77}

	// smallNet has the addresses 257 and 258 to give, wideNet 167772417 to 167772670.
	smallNet = impl.Prefix{Addr: 256, Len: 30}
	wideNet  = impl.Prefix{Addr: 167772416, Len: 24}
)

func leasesOf(rows ...[3]int) []impl.Lease {
	var list []impl.Lease
	for _, row := range rows {
		list = append(list, impl.Lease{Addr: row[0], Who: row[1], Until: row[2]})
	}
	return list
}

func fixesOf(rows ...[2]int) []impl.Fixed {
	var list []impl.Fixed
	for _, row := range rows {
		list = append(list, impl.Fixed{Who: row[0], Addr: row[1]})
	}
	return list
}

func poolOf(net impl.Prefix, leases []impl.Lease, fixes []impl.Fixed) impl.Pool {
	return impl.Pool{Net: net, Leases: leases, Fixes: fixes}
}

func withLeases(p impl.Pool, leases []impl.Lease) impl.Pool {
	return poolOf(p.Net, leases, p.Fixes)
}

func samePool(a, b impl.Pool) bool {
	return a.Net == b.Net && slices.Equal(a.Leases, b.Leases) && slices.Equal(a.Fixes, b.Fixes)
}

func clonePool(p impl.Pool) impl.Pool {
	return poolOf(p.Net, slices.Clone(p.Leases), slices.Clone(p.Fixes))
}

// isInnerLike holds for an address of a net that is neither of its ends.
func isInnerLike(net impl.Prefix, a int) bool {
	return a > net.Addr && a < lastOf(net)
}

func isWhoLike(who int) bool {
	return who > 0 && who < 100
}

// poolRightLike keeps who has been seen in maps.
func poolRightLike(p impl.Pool) bool {
	if !prefixRightLike(p.Net) || p.Net.Len < 24 || p.Net.Len > 30 || len(p.Leases) > maxLeases || len(p.Fixes) > mostFixes {
		return false
	}
	owners, holders := map[int]int{}, map[int]int{}
	last := 0
	for _, f := range p.Fixes {
		if !isWhoLike(f.Who) || !isInnerLike(p.Net, f.Addr) || f.Who <= last || owners[f.Addr] != 0 {
			return false
		}
		owners[f.Addr], last = f.Who, f.Who
	}
	last = 0
	for _, l := range p.Leases {
		if !isWhoLike(l.Who) || !isInnerLike(p.Net, l.Addr) || l.Addr <= last || holders[l.Who] != 0 {
			return false
		}
		if l.Until < 0 || l.Until > mostUntil || owners[l.Addr] != 0 && owners[l.Addr] != l.Who {
			return false
		}
		holders[l.Who], last = l.Addr, l.Addr
	}
	return true
}

// grantLike marks what is taken in the whole net, and takes the first that is not.
func grantLike(p impl.Pool, who, now int) (impl.Pool, int, bool) {
	if !poolRightLike(p) || !isWhoLike(who) || now < 0 || now > mostNow {
		return p, 0, false
	}
	next := clonePool(p)
	taken := make([]bool, lastOf(p.Net)-p.Net.Addr+1)
	taken[0], taken[len(taken)-1] = true, true
	for place, l := range next.Leases {
		if l.Who == who {
			next.Leases[place].Until = now + leaseTime
			return next, l.Addr, true
		}
		taken[l.Addr-p.Net.Addr] = true
	}
	offset := -1
	for _, f := range p.Fixes {
		taken[f.Addr-p.Net.Addr] = true
		if f.Who == who {
			offset = f.Addr - p.Net.Addr
		}
	}
	if offset < 0 {
		offset = slices.Index(taken, false)
	}
	if offset < 0 || len(p.Leases) == maxLeases {
		return p, 0, false
	}
	next.Leases = append(next.Leases, impl.Lease{Addr: p.Net.Addr + offset, Who: who, Until: now + leaseTime})
	slices.SortFunc(next.Leases, func(a, b impl.Lease) int { return a.Addr - b.Addr })
	return next, p.Net.Addr + offset, true
}

func releaseLike(p impl.Pool, who int) (impl.Pool, bool) {
	if !poolRightLike(p) {
		return p, false
	}
	for place, l := range p.Leases {
		if l.Who == who {
			return withLeases(p, slices.Concat(p.Leases[:place], p.Leases[place+1:])), true
		}
	}
	return p, false
}

// expireLike sorts what is over, those of one Addr as they come.
func expireLike(p impl.Pool, now int) (impl.Pool, []int) {
	var left, over []impl.Lease
	for _, l := range p.Leases {
		if now >= l.Until {
			over = append(over, l)
		} else {
			left = append(left, l)
		}
	}
	slices.SortStableFunc(over, func(a, b impl.Lease) int {
		if a.Addr < b.Addr {
			return -1
		}
		if a.Addr > b.Addr {
			return 1
		}
		return 0
	})
	var whose []int
	for _, l := range over {
		whose = append(whose, l.Who)
	}
	return withLeases(p, left), whose
}

func holderLike(p impl.Pool, a int) int {
	place := slices.IndexFunc(p.Leases, func(l impl.Lease) bool { return l.Addr == a })
	if place < 0 {
		return 0
	}
	return p.Leases[place].Who
}

// lentPool is a pool whose lists lie in greater rooms, and how these were.
type lentPool struct {
	pool       impl.Pool
	leases     []impl.Lease
	fixes      []impl.Fixed
	leasesWere []impl.Lease
	fixesWere  []impl.Fixed
}

func lend(p impl.Pool) lentPool {
	leases, leaseRoom := inRoom(p.Leases, spareLease)
	fixes, fixRoom := inRoom(p.Fixes, spareFixed)
	return lentPool{poolOf(p.Net, leases, fixes), leaseRoom, fixRoom, slices.Clone(leaseRoom), slices.Clone(fixRoom)}
}

func (lent lentPool) checkUntouched(t *testing.T, what string) {
	t.Helper()
	if !slices.Equal(lent.leases, lent.leasesWere) || !slices.Equal(lent.fixes, lent.fixesWere) {
		t.Errorf("%s wrote into its argument: %v, %v; want %v, %v", what, lent.leases, lent.fixes, lent.leasesWere, lent.fixesWere)
	}
}

// checkAnswer writes into the whole of each list of an answer: neither the
// argument nor the answer's other list may be seen to change.
func (lent lentPool) checkAnswer(t *testing.T, what string, got impl.Pool) {
	t.Helper()
	lent.checkUntouched(t, what)
	told := clonePool(got)
	checkApart(t, what, lent.leases, lent.leasesWere, got.Leases, spareLease)
	checkApart(t, what, lent.fixes, lent.fixesWere, got.Fixes, spareFixed)
	filled(got.Leases, spareLease)
	if !slices.Equal(got.Fixes, told.Fixes) {
		t.Errorf("%s answers two lists that share memory", what)
	}
	copy(got.Leases, told.Leases)
	filled(got.Fixes, spareFixed)
	if !slices.Equal(got.Leases, told.Leases) {
		t.Errorf("%s answers two lists that share memory", what)
	}
	lent.checkUntouched(t, what)
}

func checkPool(t *testing.T, p impl.Pool, want bool) {
	t.Helper()
	lent := lend(p)
	if got := impl.PoolOk(lent.pool); got != want {
		t.Errorf("PoolOk(%v) = %v; want %v", p, got, want)
	}
	lent.checkUntouched(t, "PoolOk")
}

func checkGrant(t *testing.T, p impl.Pool, who, now int, want impl.Pool, addr int, right bool) {
	t.Helper()
	lent := lend(p)
	got, a, ok := impl.Grant(lent.pool, who, now)
	if !samePool(got, want) || a != addr || ok != right {
		t.Errorf("Grant(%v, %d, %d) = %v, %d, %v; want %v, %d, %v", p, who, now, got, a, ok, want, addr, right)
	}
	lent.checkAnswer(t, "Grant", got)
}

func checkGrantLike(t *testing.T, p impl.Pool, who, now int) {
	t.Helper()
	want, addr, right := grantLike(p, who, now)
	checkGrant(t, p, who, now, want, addr, right)
}

func checkNoGrant(t *testing.T, p impl.Pool, who, now int) {
	t.Helper()
	checkGrant(t, p, who, now, p, 0, false)
}

func checkRelease(t *testing.T, p impl.Pool, who int, want impl.Pool, right bool) {
	t.Helper()
	lent := lend(p)
	got, ok := impl.Release(lent.pool, who)
	if !samePool(got, want) || ok != right {
		t.Errorf("Release(%v, %d) = %v, %v; want %v, %v", p, who, got, ok, want, right)
	}
	lent.checkAnswer(t, "Release", got)
}

func checkExpire(t *testing.T, p impl.Pool, now int, want impl.Pool, whose []int) {
	t.Helper()
	lent := lend(p)
	got, told := impl.Expire(lent.pool, now)
	if !samePool(got, want) || !slices.Equal(told, whose) {
		t.Errorf("Expire(%v, %d) = %v, %v; want %v, %v", p, now, got, told, want, whose)
	}
	filled(told, 77)
	if !samePool(got, want) {
		t.Errorf("Expire(%v, %d) answers two lists that share memory", p, now)
	}
	lent.checkAnswer(t, "Expire", got)
}

func checkExpireLike(t *testing.T, p impl.Pool, now int) {
	t.Helper()
	want, whose := expireLike(p, now)
	checkExpire(t, p, now, want, whose)
}

func checkHolder(t *testing.T, p impl.Pool, a, want int) {
	t.Helper()
	lent := lend(p)
	if got := impl.HolderOf(lent.pool, a); got != want {
		t.Errorf("HolderOf(%v, %d) = %d; want %d", p, a, got, want)
	}
	lent.checkUntouched(t, "HolderOf")
}

// checkHolders asks at every address of the net, and just outside of it.
func checkHolders(t *testing.T, p impl.Pool) {
	t.Helper()
	for a := p.Net.Addr - 1; a <= lastOf(p.Net)+1; a++ {
		if got := impl.HolderOf(p, a); got != holderLike(p, a) {
			t.Errorf("HolderOf(%v, %d) = %d; want %d", p, a, got, holderLike(p, a))
		}
	}
}

func untilsOutside() []int {
	return []int{-1, -2, -mostUntil, mostUntil + 1, mostUntil + 2, 1<<32 + 5, math.MinInt, math.MinInt + 1, math.MaxInt}
}

func nowsOutside() []int {
	return []int{-1, -20, -21, mostNow + 1, mostNow + 2, mostUntil, mostUntil + 1, 1 << 32, 1<<32 + 5, math.MinInt, math.MinInt + 1, math.MaxInt - 20, math.MaxInt}
}

func netsOfNote() []impl.Prefix {
	var list []impl.Prefix
	for n := 24; n <= 30; n++ {
		for _, a := range []int{0, 167772418, 1<<31 - 1, 1 << 31, maxAddr} {
			list = append(list, prefixLike(a, n))
		}
	}
	return list
}

// poolsOfNote are right, and what the chapter names is in them.
func poolsOfNote() []impl.Pool {
	base := wideNet.Addr
	six := leasesOf([3]int{base + 1, 9, 0}, [3]int{base + 2, 1, 5}, [3]int{base + 4, 99, 21}, [3]int{base + 5, 50, 20}, [3]int{base + 200, 7, mostUntil}, [3]int{base + 254, 8, 20})
	four := fixesOf([2]int{1, base + 254}, [2]int{7, base + 3}, [2]int{50, base + 1}, [2]int{99, base + 2})
	list := []impl.Pool{
		poolOf(wideNet, nil, nil),
		poolOf(wideNet, []impl.Lease{}, []impl.Fixed{}),
		poolOf(wideNet, six, nil),
		poolOf(wideNet, six[:5], nil),
		poolOf(wideNet, nil, four),
		poolOf(wideNet, nil, four[:3]),
		poolOf(wideNet, leasesOf([3]int{base + 3, 7, 4}, [3]int{base + 9, 1, 5}), four),
		poolOf(wideNet, leasesOf([3]int{base + 9, 7, 4}, [3]int{base + 254, 1, 5}), four),
		poolOf(wideNet, leasesOf([3]int{base + 1, 50, 1}, [3]int{base + 2, 99, 2}, [3]int{base + 3, 7, 3}, [3]int{base + 4, 2, 4}, [3]int{base + 5, 3, 5}, [3]int{base + 254, 1, 6}), four),
		poolOf(smallNet, leasesOf([3]int{257, 5, 21}, [3]int{258, 6, 22}), nil),
		poolOf(smallNet, leasesOf([3]int{258, 6, 22}), nil),
		poolOf(smallNet, nil, fixesOf([2]int{1, 258}, [2]int{99, 257})),
		poolOf(smallNet, leasesOf([3]int{257, 99, 3}), fixesOf([2]int{1, 258}, [2]int{99, 257})),
		poolOf(smallNet, leasesOf([3]int{257, 1, 3}), fixesOf([2]int{1, 258})),
	}
	for _, net := range netsOfNote() {
		list = append(list,
			poolOf(net, nil, nil),
			poolOf(net, leasesOf([3]int{net.Addr + 1, 1, 0}, [3]int{lastOf(net) - 1, 99, mostUntil}), nil),
			poolOf(net, leasesOf([3]int{net.Addr + 1, 99, 30}), fixesOf([2]int{1, lastOf(net) - 1})))
	}
	return list
}

// wrongPools are wrong in just one thing each.
func wrongPools() []impl.Pool {
	base, last := wideNet.Addr, lastOf(wideNet)
	some := leasesOf([3]int{base + 2, 3, 7}, [3]int{base + 5, 4, 8})
	fixed := fixesOf([2]int{5, base + 9}, [2]int{8, base + 6})
	list := []impl.Pool{
		{},
		poolOf(wideNet, leasesOf([3]int{base + 5, 4, 8}, [3]int{base + 2, 3, 7}), nil),
		poolOf(wideNet, leasesOf([3]int{base + 2, 3, 7}, [3]int{base + 9, 4, 8}, [3]int{base + 5, 6, 9}), nil),
		poolOf(wideNet, leasesOf([3]int{base + 2, 3, 7}, [3]int{base + 2, 4, 8}), nil),
		poolOf(wideNet, leasesOf([3]int{base + 2, 3, 7}, [3]int{base + 2, 3, 7}), nil),
		poolOf(wideNet, leasesOf([3]int{base + 2, 3, 7}, [3]int{base + 5, 3, 7}), nil),
		poolOf(wideNet, leasesOf([3]int{base + 2, 3, 7}, [3]int{base + 5, 4, 8}, [3]int{base + 7, 3, 9}), nil),
		poolOf(wideNet, some, fixesOf([2]int{8, base + 6}, [2]int{5, base + 9})),
		poolOf(wideNet, some, fixesOf([2]int{5, base + 9}, [2]int{5, base + 6})),
		poolOf(wideNet, some, fixesOf([2]int{5, base + 9}, [2]int{5, base + 9})),
		poolOf(wideNet, some, fixesOf([2]int{5, base + 9}, [2]int{8, base + 9})),
		poolOf(wideNet, some, fixesOf([2]int{5, base + 9}, [2]int{8, base + 6}, [2]int{9, base + 9})),
		poolOf(wideNet, some, fixesOf([2]int{5, base + 2})),
		poolOf(wideNet, some, fixesOf([2]int{3, base + 9}, [2]int{4, base + 2})),
		poolOf(wideNet, some, fixesOf([2]int{3, base + 5}, [2]int{4, base + 2})),
		poolOf(wideNet, some, fixesOf([2]int{4, base + 9}, [2]int{6, base + 5})),
	}
	for _, a := range []int{base, last, base - 1, last + 1, base - 255, last + 255, 1, 0, -1, maxAddr, maxAddr + 1, 1<<32 + base + 3, math.MinInt, math.MaxInt} {
		list = append(list,
			poolOf(wideNet, leasesOf([3]int{a, 3, 7}), nil),
			poolOf(wideNet, leasesOf([3]int{a, 3, 7}, [3]int{base + 5, 4, 8}), fixed),
			poolOf(wideNet, leasesOf([3]int{base + 5, 4, 8}, [3]int{a, 3, 7}), fixed),
			poolOf(wideNet, some, fixesOf([2]int{5, a})),
			poolOf(wideNet, some, fixesOf([2]int{5, base + 9}, [2]int{8, a})))
	}
	for _, who := range tosOutside() {
		list = append(list,
			poolOf(wideNet, leasesOf([3]int{base + 2, who, 7}), nil),
			poolOf(wideNet, leasesOf([3]int{base + 2, 3, 7}, [3]int{base + 5, who, 8}), fixed),
			poolOf(wideNet, some, fixesOf([2]int{who, base + 9})),
			poolOf(wideNet, some, fixesOf([2]int{5, base + 9}, [2]int{who, base + 6})),
			poolOf(wideNet, some, fixesOf([2]int{who, base + 9}, [2]int{8, base + 6})))
	}
	for _, until := range untilsOutside() {
		list = append(list,
			poolOf(wideNet, leasesOf([3]int{base + 2, 3, until}), nil),
			poolOf(wideNet, leasesOf([3]int{base + 2, 3, until}, [3]int{base + 5, 4, 8}), fixed),
			poolOf(wideNet, leasesOf([3]int{base + 2, 3, 7}, [3]int{base + 5, 4, until}), fixed))
	}
	for more := 1; more < 4; more++ {
		list = append(list, poolOf(wideNet, leasesInRow(base+1, maxLeases+more), nil), poolOf(wideNet, some, fixesInRow(base+10, mostFixes+more)))
	}
	return append(list, poolsOfWrongNets()...)
}

func poolsOfWrongNets() []impl.Pool {
	var list []impl.Pool
	for _, p := range wrongPrefixes() {
		list = append(list, poolOf(p, nil, nil))
	}
	for _, n := range []int{0, 1, 8, 16, 22, 23, 31, 32} {
		list = append(list, poolOf(impl.Prefix{Len: n}, nil, nil), poolOf(prefixLike(wideNet.Addr, n), nil, nil))
	}
	base := wideNet.Addr
	some := leasesOf([3]int{base + 2, 3, 7}, [3]int{base + 5, 4, 8})
	for _, net := range []impl.Prefix{{Addr: 167772160, Len: 23}, {Addr: base + 1, Len: 24}, {Addr: base + 4, Len: 28}, {Addr: base + 2, Len: 30}, {Addr: base + 1, Len: 30}, {Addr: base + 4, Len: 31}} {
		list = append(list, poolOf(net, some, nil), poolOf(net, nil, nil), poolOf(net, nil, fixesOf([2]int{5, base + 5})))
	}
	for _, n := range lensOutside() {
		list = append(list, poolOf(impl.Prefix{Addr: base, Len: n}, some, nil))
	}
	return list
}

func leasesInRow(first, size int) []impl.Lease {
	var list []impl.Lease
	for place := range size {
		list = append(list, impl.Lease{Addr: first + place, Who: 20 + place, Until: 30 + place})
	}
	return list
}

func fixesInRow(first, size int) []impl.Fixed {
	var list []impl.Fixed
	for place := range size {
		list = append(list, impl.Fixed{Who: 60 + place, Addr: first + place})
	}
	return list
}

func TestLimitsOfPools(t *testing.T) {
	if impl.MaxLeases != maxLeases || impl.LeaseTime != leaseTime {
		t.Errorf("MaxLeases is %d, LeaseTime %d; want 6, 20", impl.MaxLeases, impl.LeaseTime)
	}
}

func TestPoolsOfNoteAreRight(t *testing.T) {
	for _, p := range poolsOfNote() {
		if !poolRightLike(p) {
			t.Fatalf("%v is not right", p)
		}
		checkPool(t, p, true)
		checkHolders(t, p)
	}
}

func TestPoolsThatAreNotRight(t *testing.T) {
	for _, p := range wrongPools() {
		if poolRightLike(p) {
			t.Fatalf("%v is right", p)
		}
		checkPool(t, p, false)
		for _, who := range []int{0, 1, 3, 4, 5, 20, 60, 99, 100} {
			checkNoGrant(t, p, who, 0)
			checkNoGrant(t, p, who, 6)
			checkRelease(t, p, who, p, false)
		}
		for _, l := range p.Leases {
			checkNoGrant(t, p, l.Who, 6)
			checkRelease(t, p, l.Who, p, false)
			checkHolder(t, p, l.Addr, holderLike(p, l.Addr))
		}
		for _, now := range []int{math.MinInt, -1, 0, 7, 8, mostUntil, math.MaxInt} {
			checkExpireLike(t, p, now)
		}
	}
}

func TestAGreatPoolIsNotRight(t *testing.T) {
	leases := slices.Repeat(leasesOf([3]int{258, 6, 22}, [3]int{257, 5, 21}), 20000)
	p := poolOf(smallNet, leases, nil)
	checkPool(t, p, false)
	checkNoGrant(t, p, 5, 1)
	checkRelease(t, p, 5, p, false)
	checkHolder(t, p, 257, 5)
	checkHolder(t, p, 256, 0)
	checkExpireLike(t, p, 21)
	checkExpireLike(t, p, 22)
	p = poolOf(smallNet, nil, slices.Repeat(fixesOf([2]int{5, 257}), 20000))
	checkPool(t, p, false)
	checkNoGrant(t, p, 5, 1)
}

func TestLensOfANet(t *testing.T) {
	for n := range maxLen + 1 {
		for _, a := range []int{0, 167772418, 1 << 31, maxAddr} {
			p := poolOf(prefixLike(a, n), nil, nil)
			checkPool(t, p, n >= 24 && n <= 30)
			checkGrantLike(t, p, 5, 1)
		}
	}
	for _, n := range lensOutside() {
		checkPool(t, poolOf(impl.Prefix{Len: n}, nil, nil), false)
	}
}

func TestTheFirstAndTheLastAddressAreNobodys(t *testing.T) {
	for _, net := range netsOfNote() {
		first, last := net.Addr, lastOf(net)
		for _, c := range []struct {
			a    int
			want bool
		}{{first - 1, false}, {first, false}, {first + 1, true}, {last - 1, true}, {last, false}, {last + 1, false}} {
			checkPool(t, poolOf(net, leasesOf([3]int{c.a, 5, 9}), nil), c.want)
			checkPool(t, poolOf(net, nil, fixesOf([2]int{5, c.a})), c.want)
			checkPool(t, poolOf(net, leasesOf([3]int{c.a, 5, 9}), fixesOf([2]int{5, c.a})), c.want)
		}
	}
}

func TestEachAddressOfANet(t *testing.T) {
	for _, net := range netsOfNote() {
		for a := net.Addr - 2; a <= lastOf(net)+2; a++ {
			want := a > net.Addr && a < lastOf(net)
			if got := impl.PoolOk(poolOf(net, leasesOf([3]int{a, 5, 9}), nil)); got != want {
				t.Fatalf("a lease of %d in %v is right: %v; want %v", a, net, got, want)
			}
			if got := impl.PoolOk(poolOf(net, nil, fixesOf([2]int{5, a}))); got != want {
				t.Fatalf("a Fix of %d in %v is right: %v; want %v", a, net, got, want)
			}
		}
	}
}

func TestPoolsOfFixedAnswers(t *testing.T) {
	none := poolOf(smallNet, nil, nil)
	one := poolOf(smallNet, leasesOf([3]int{257, 5, 21}), nil)
	two := poolOf(smallNet, leasesOf([3]int{257, 5, 21}, [3]int{258, 6, 22}), nil)
	checkGrant(t, none, 5, 1, one, 257, true)
	checkGrant(t, one, 6, 2, two, 258, true)
	checkNoGrant(t, two, 7, 3)
	checkGrant(t, two, 5, 3, poolOf(smallNet, leasesOf([3]int{257, 5, 23}, [3]int{258, 6, 22}), nil), 257, true)
	checkGrant(t, two, 6, 30, poolOf(smallNet, leasesOf([3]int{257, 5, 21}, [3]int{258, 6, 50}), nil), 258, true)
	checkExpire(t, two, 20, two, nil)
	checkExpire(t, two, 21, poolOf(smallNet, leasesOf([3]int{258, 6, 22}), nil), []int{5})
	checkExpire(t, two, 22, none, []int{5, 6})
	checkRelease(t, two, 6, one, true)
	checkRelease(t, two, 5, poolOf(smallNet, leasesOf([3]int{258, 6, 22}), nil), true)
	checkRelease(t, one, 6, one, false)
	for _, c := range []struct{ a, want int }{{256, 0}, {257, 5}, {258, 6}, {259, 0}, {255, 0}, {0, 0}, {-1, 0}, {260, 0}, {math.MinInt, 0}, {math.MaxInt, 0}} {
		checkHolder(t, two, c.a, c.want)
	}
	checkHolder(t, none, 257, 0)
	checkHolder(t, one, 258, 0)
}

func TestAPoolOfNoLeases(t *testing.T) {
	for _, net := range netsOfNote() {
		for _, p := range []impl.Pool{poolOf(net, nil, nil), poolOf(net, []impl.Lease{}, []impl.Fixed{})} {
			checkGrant(t, p, 5, 1, poolOf(net, leasesOf([3]int{net.Addr + 1, 5, 21}), nil), net.Addr+1, true)
			checkRelease(t, p, 5, p, false)
			checkExpire(t, p, math.MaxInt, p, nil)
			checkExpire(t, p, math.MinInt, p, nil)
			checkHolders(t, p)
			checkHolder(t, p, 0, 0)
		}
	}
}

func TestEachNetGivesFromItsSecondAddressOn(t *testing.T) {
	for _, net := range netsOfNote() {
		p := poolOf(net, nil, nil)
		room := min(lastOf(net)-net.Addr-1, maxLeases)
		for place := range room {
			next, a, ok := impl.Grant(p, 90-place, place)
			if !ok || a != net.Addr+1+place || !impl.PoolOk(next) || impl.HolderOf(next, a) != 90-place {
				t.Fatalf("Grant(%v, %d, %d) = %v, %d, %v", p, 90-place, place, next, a, ok)
			}
			p = next
		}
		checkNoGrant(t, p, 50, 9)
	}
}

func TestWhoAsksAgainHasTheSameAddressTillLater(t *testing.T) {
	for _, p := range poolsOfNote() {
		for place, l := range p.Leases {
			for _, now := range []int{0, 1, l.Until % mostNow, 500, mostNow} {
				want := clonePool(p)
				want.Leases[place].Until = now + 20
				checkGrant(t, p, l.Who, now, want, l.Addr, true)
			}
		}
	}
}

func TestSixLeasesAndOneWhoAsksThen(t *testing.T) {
	base := wideNet.Addr
	six := poolOf(wideNet, leasesInRow(base+1, maxLeases), fixesOf([2]int{20, base + 1}, [2]int{70, base + 100}))
	five := withLeases(six, six.Leases[:5])
	checkPool(t, six, true)
	checkGrant(t, five, 25, 15, six, base+6, true)
	checkGrant(t, five, 70, 15, withLeases(six, append(leasesInRow(base+1, 5), impl.Lease{Addr: base + 100, Who: 70, Until: 35})), base+100, true)
	for _, who := range []int{1, 19, 26, 70, 99} {
		checkNoGrant(t, six, who, 1)
	}
	for place, l := range six.Leases {
		want := clonePool(six)
		want.Leases[place].Until = 120
		checkGrant(t, six, l.Who, 100, want, l.Addr, true)
		left, _ := impl.Release(six, l.Who)
		checkGrantLike(t, left, 99, 100)
		checkGrantLike(t, left, 70, 100)
	}
}

func TestWhatIsReleasedIsFreeAgain(t *testing.T) {
	for _, p := range poolsOfNote() {
		for place, l := range p.Leases {
			left := withLeases(p, slices.Concat(p.Leases[:place], p.Leases[place+1:]))
			checkRelease(t, p, l.Who, left, true)
			checkRelease(t, left, l.Who, left, false)
			checkPool(t, left, true)
			checkHolder(t, left, l.Addr, 0)
			for _, who := range []int{1, 7, 42, 50, 99, l.Who} {
				checkGrantLike(t, left, who, 3)
			}
		}
	}
	base := wideNet.Addr
	row := poolOf(wideNet, leasesInRow(base+1, 5), nil)
	for place, l := range row.Leases {
		left, _ := impl.Release(row, l.Who)
		want := clonePool(row)
		want.Leases[place] = impl.Lease{Addr: base + 1 + place, Who: 99, Until: 20}
		checkGrant(t, left, 99, 0, want, base+1+place, true)
	}
}

func TestReleaseOfOnesWithoutALease(t *testing.T) {
	for _, p := range poolsOfNote() {
		for _, who := range append(tosOutside(), 2, 42, 98) {
			want, right := releaseLike(p, who)
			checkRelease(t, p, who, want, right)
		}
	}
	p := poolOf(wideNet, nil, fixesOf([2]int{5, wideNet.Addr + 9}))
	checkRelease(t, p, 5, p, false)
}

func TestAFixedAddressIsForItsWhoAlone(t *testing.T) {
	base := wideNet.Addr
	p := poolOf(wideNet, nil, fixesOf([2]int{3, base + 254}, [2]int{5, base + 2}, [2]int{8, base + 1}, [2]int{99, base + 4}))
	checkPool(t, p, true)
	checkGrant(t, p, 3, 1, withLeases(p, leasesOf([3]int{base + 254, 3, 21})), base+254, true)
	checkGrant(t, p, 5, 1, withLeases(p, leasesOf([3]int{base + 2, 5, 21})), base+2, true)
	checkGrant(t, p, 8, 1, withLeases(p, leasesOf([3]int{base + 1, 8, 21})), base+1, true)
	checkGrant(t, p, 99, 1, withLeases(p, leasesOf([3]int{base + 4, 99, 21})), base+4, true)
	checkGrant(t, p, 7, 1, withLeases(p, leasesOf([3]int{base + 3, 7, 21})), base+3, true)
	q, _, _ := impl.Grant(p, 7, 1)
	checkGrant(t, q, 6, 2, withLeases(p, leasesOf([3]int{base + 3, 7, 21}, [3]int{base + 5, 6, 22})), base+5, true)
	checkGrant(t, q, 8, 2, withLeases(p, leasesOf([3]int{base + 1, 8, 22}, [3]int{base + 3, 7, 21})), base+1, true)
	elsewhere := withLeases(p, leasesOf([3]int{base + 9, 5, 4}))
	checkPool(t, elsewhere, true)
	checkGrant(t, elsewhere, 5, 2, withLeases(p, leasesOf([3]int{base + 9, 5, 22})), base+9, true)
	checkGrant(t, elsewhere, 6, 2, withLeases(p, leasesOf([3]int{base + 3, 6, 22}, [3]int{base + 9, 5, 4})), base+3, true)
}

func TestASmallNetWithFixes(t *testing.T) {
	both := poolOf(smallNet, nil, fixesOf([2]int{1, 258}, [2]int{99, 257}))
	checkNoGrant(t, both, 50, 1)
	checkGrant(t, both, 1, 1, withLeases(both, leasesOf([3]int{258, 1, 21})), 258, true)
	checkGrant(t, both, 99, 1, withLeases(both, leasesOf([3]int{257, 99, 21})), 257, true)
	one := poolOf(smallNet, leasesOf([3]int{258, 6, 5}), fixesOf([2]int{7, 257}))
	checkNoGrant(t, one, 50, 1)
	checkGrant(t, one, 6, 1, withLeases(one, leasesOf([3]int{258, 6, 21})), 258, true)
	checkGrant(t, one, 7, 1, withLeases(one, leasesOf([3]int{257, 7, 21}, [3]int{258, 6, 5})), 257, true)
}

func TestFourFixesAndFive(t *testing.T) {
	base := wideNet.Addr
	for size := range 8 {
		p := poolOf(wideNet, nil, fixesInRow(base+1, size))
		checkPool(t, p, size <= 4)
		checkGrantLike(t, p, 60, 1)
		checkGrantLike(t, p, 5, 1)
	}
	for size := range 10 {
		checkPool(t, poolOf(wideNet, leasesInRow(base+1, size), nil), size <= 6)
	}
}

func TestWhosAndNows(t *testing.T) {
	for _, p := range poolsOfNote() {
		for _, who := range append(tosOutside(), 1, 2, 42, 98, 99) {
			for _, now := range append(nowsOutside(), 0, 1, mostNow-1, mostNow) {
				checkGrantLike(t, p, who, now)
			}
		}
		for _, who := range tosOutside() {
			checkNoGrant(t, p, who, 1)
		}
		for _, now := range nowsOutside() {
			checkNoGrant(t, p, 42, now)
			checkNoGrant(t, p, 99, now)
		}
	}
	empty := poolOf(smallNet, nil, nil)
	for _, who := range []int{1, 99} {
		checkGrant(t, empty, who, 0, poolOf(smallNet, leasesOf([3]int{257, who, 20}), nil), 257, true)
		checkGrant(t, empty, who, mostNow, poolOf(smallNet, leasesOf([3]int{257, who, mostUntil}), nil), 257, true)
	}
	for who := 1; who <= 99; who++ {
		p, a, ok := impl.Grant(empty, who, who)
		if !ok || a != 257 || !impl.PoolOk(p) || impl.HolderOf(p, 257) != who {
			t.Errorf("Grant(%v, %d, %d) = %v, %d, %v", empty, who, who, p, a, ok)
		}
	}
}

func TestUntilEqualToNowIsOver(t *testing.T) {
	for _, until := range []int{0, 1, 20, 21, mostNow, mostUntil - 1, mostUntil} {
		p := poolOf(smallNet, leasesOf([3]int{257, 5, until}), fixesOf([2]int{9, 258}))
		gone := withLeases(p, nil)
		checkPool(t, p, true)
		checkExpire(t, p, until-1, p, nil)
		checkExpire(t, p, until, gone, []int{5})
		checkExpire(t, p, until+1, gone, []int{5})
		checkExpire(t, p, math.MinInt, p, nil)
		checkExpire(t, p, -1, p, nil)
		checkExpire(t, p, math.MaxInt, gone, []int{5})
	}
}

func TestWhatIsOverIsToldInOrderOfAddr(t *testing.T) {
	base := wideNet.Addr
	p := poolOf(wideNet, leasesOf([3]int{base + 1, 9, 30}, [3]int{base + 2, 1, 10}, [3]int{base + 4, 99, 20}, [3]int{base + 5, 50, 5}, [3]int{base + 200, 7, 20}, [3]int{base + 254, 8, 0}), fixesOf([2]int{1, base + 7}))
	for _, c := range []struct {
		now   int
		whose []int
	}{
		{-1, nil}, {0, []int{8}}, {4, []int{8}}, {5, []int{50, 8}}, {10, []int{1, 50, 8}},
		{19, []int{1, 50, 8}}, {20, []int{1, 99, 50, 7, 8}}, {29, []int{1, 99, 50, 7, 8}}, {30, []int{9, 1, 99, 50, 7, 8}},
	} {
		want := withLeases(p, slices.DeleteFunc(slices.Clone(p.Leases), func(l impl.Lease) bool { return slices.Contains(c.whose, l.Who) }))
		checkExpire(t, p, c.now, want, c.whose)
		checkPool(t, want, true)
		checkHolders(t, want)
	}
	for _, q := range poolsOfNote() {
		for _, now := range []int{-1, 0, 1, 4, 5, 6, 19, 20, 21, 22, mostUntil - 1, mostUntil, mostUntil + 1} {
			checkExpireLike(t, q, now)
		}
	}
}

func TestWhatStaysInAWrongPoolKeepsItsPlace(t *testing.T) {
	leases := leasesOf([3]int{9, 1, 5}, [3]int{4, 2, 50}, [3]int{9, 3, 5}, [3]int{-7, 4, 5}, [3]int{4, 5, 50}, [3]int{2, 6, 50}, [3]int{9, 7, -5}, [3]int{3, 1, 5}, [3]int{math.MaxInt, 8, 5}, [3]int{math.MinInt, 0, 5}, [3]int{9, 10, 5})
	p := poolOf(impl.Prefix{Addr: 3, Len: 99}, leases, fixesOf([2]int{7, 7}, [2]int{7, 7}))
	checkExpire(t, p, 5, withLeases(p, leasesOf([3]int{4, 2, 50}, [3]int{4, 5, 50}, [3]int{2, 6, 50})), []int{0, 4, 1, 1, 3, 7, 10, 8})
	checkExpire(t, p, 4, withLeases(p, slices.Concat(leases[:6], leases[7:])), []int{7})
	checkExpireLike(t, p, 50)
	checkExpireLike(t, p, math.MaxInt)
	checkHolder(t, p, 9, 1)
	checkHolder(t, p, 4, 2)
	checkHolder(t, p, -7, 4)
	checkHolder(t, p, math.MaxInt, 8)
	checkHolder(t, p, 7, 0)
}

// TestEachStateOfANetOfSix goes through a net of Len 29, whose six addresses
// are free, leased, fixed, or leased to the one they are fixed for.
func TestEachStateOfANetOfSix(t *testing.T) {
	net := impl.Prefix{Addr: 167772424, Len: 29}
	for state := range 4096 {
		p := poolOf(net, nil, nil)
		for place := range 6 {
			kind, a, who := state>>(2*place)&3, net.Addr+1+place, 10+(place*5)%6
			if kind == 1 || kind == 3 {
				p.Leases = append(p.Leases, impl.Lease{Addr: a, Who: who, Until: 5 + place})
			}
			if kind >= 2 {
				p.Fixes = append(p.Fixes, impl.Fixed{Who: who, Addr: a})
			}
		}
		slices.SortFunc(p.Fixes, func(a, b impl.Fixed) int { return a.Who - b.Who })
		if len(p.Fixes) > mostFixes {
			checkPool(t, p, false)
			continue
		}
		checkPool(t, p, true)
		for _, who := range []int{9, 10, 11, 12, 13, 14, 15, 16} {
			want, addr, right := grantLike(p, who, 7)
			if got, a, ok := impl.Grant(p, who, 7); !samePool(got, want) || a != addr || ok != right || !impl.PoolOk(got) {
				t.Fatalf("Grant(%v, %d, 7) = %v, %d, %v; want %v, %d, %v", p, who, got, a, ok, want, addr, right)
			}
		}
	}
}

// checkOneAddressEach holds what promise 11 says against a pool itself.
func checkOneAddressEach(t *testing.T, p impl.Pool) {
	t.Helper()
	addrs, whos := map[int]int{}, map[int]int{}
	for _, l := range p.Leases {
		addrs[l.Addr]++
		whos[l.Who]++
		if addrs[l.Addr] > 1 || whos[l.Who] > 1 {
			t.Fatalf("two have one address, or one has two, in %v", p)
		}
		if !isInnerLike(p.Net, l.Addr) {
			t.Fatalf("%d is not for anybody in %v", l.Addr, p)
		}
	}
	if !impl.PoolOk(p) {
		t.Fatalf("%v is not right", p)
	}
}

func drawnFixes(draw *rand.Rand, net impl.Prefix) []impl.Fixed {
	var list []impl.Fixed
	for range draw.Intn(mostFixes + 1) {
		next := append(slices.Clone(list), impl.Fixed{Who: draw.Intn(9) + 1, Addr: net.Addr + draw.Intn(9)})
		slices.SortFunc(next, func(a, b impl.Fixed) int { return a.Who - b.Who })
		if poolRightLike(poolOf(net, nil, next)) {
			list = next
		}
	}
	return list
}

func TestADrawnLifeOfAPool(t *testing.T) {
	draw := rand.New(rand.NewSource(151))
	nets := netsOfNote()
	for range 200 {
		net := nets[draw.Intn(len(nets))]
		p := poolOf(net, nil, drawnFixes(draw, net))
		now := draw.Intn(50)
		for range 60 {
			who := draw.Intn(12)
			switch draw.Intn(5) {
			case 0:
				want, right := releaseLike(p, who)
				got, ok := impl.Release(p, who)
				if !samePool(got, want) || ok != right {
					t.Fatalf("Release(%v, %d) = %v, %v; want %v, %v", p, who, got, ok, want, right)
				}
				p = got
			case 1:
				want, whose := expireLike(p, now)
				got, told := impl.Expire(p, now)
				if !samePool(got, want) || !slices.Equal(told, whose) {
					t.Fatalf("Expire(%v, %d) = %v, %v; want %v, %v", p, now, got, told, want, whose)
				}
				p = got
			default:
				want, addr, right := grantLike(p, who, now)
				got, a, ok := impl.Grant(p, who, now)
				if !samePool(got, want) || a != addr || ok != right {
					t.Fatalf("Grant(%v, %d, %d) = %v, %d, %v; want %v, %d, %v", p, who, now, got, a, ok, want, addr, right)
				}
				if ok && impl.HolderOf(got, a) != who {
					t.Fatalf("%d was given to %d, and %d has it", a, who, impl.HolderOf(got, a))
				}
				p = got
			}
			checkOneAddressEach(t, p)
			now += draw.Intn(6)
		}
		checkHolders(t, p)
	}
}

func TestTwoAnswersOfAPoolShareNothing(t *testing.T) {
	for _, p := range append(poolsOfNote(), wrongPools()...) {
		answers := func() []impl.Pool {
			granted, _, _ := impl.Grant(p, 42, 1)
			again, _, _ := impl.Grant(p, 5, 1)
			released, _ := impl.Release(p, 5)
			expired, _ := impl.Expire(p, 5)
			return []impl.Pool{granted, again, released, expired}
		}
		first, second := answers(), answers()
		for place := range first {
			filled(first[place].Leases, spareLease)
			filled(first[place].Fixes, spareFixed)
		}
		third := answers()
		for place := range second {
			if !samePool(second[place], third[place]) {
				t.Errorf("an answer of %v changed: %v; want %v", p, second[place], third[place])
			}
		}
	}
}

func TestRefusedLeasesLeaveNothingBehind(t *testing.T) {
	two := poolOf(smallNet, leasesOf([3]int{257, 5, 21}, [3]int{258, 6, 22}), nil)
	for range 3 {
		checkNoGrant(t, two, 7, 3)
		checkNoGrant(t, two, 0, 3)
		checkNoGrant(t, two, 5, -1)
		checkNoGrant(t, impl.Pool{}, 5, 1)
		checkRelease(t, two, 7, two, false)
		checkRelease(t, impl.Pool{}, 5, impl.Pool{}, false)
		checkExpire(t, impl.Pool{}, 5, impl.Pool{}, nil)
		checkHolder(t, impl.Pool{}, 0, 0)
		checkPool(t, two, true)
		checkGrant(t, poolOf(smallNet, nil, nil), 7, 3, poolOf(smallNet, leasesOf([3]int{257, 7, 23}), nil), 257, true)
	}
}
