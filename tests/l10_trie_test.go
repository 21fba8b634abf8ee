package tests

import (
	"fmt"
	"math"
	"math/rand"
	"slices"
	"strings"
	"testing"

	"loop.example/g00193/impl"
)

const maxTwigs = 400

var spareTwig = impl.Twig{Zero: 77, One: 77, To: 77}

func trieOf(twigs ...impl.Twig) impl.Trie {
	return impl.Trie{Twigs: twigs}
}

func sameTrie(a, b impl.Trie) bool {
	return slices.Equal(a.Twigs, b.Twigs)
}

func bitsLike(a int) string {
	return fmt.Sprintf("%032b", a)
}

// trieRightLike asks of each place who names it.
func trieRightLike(tree impl.Trie) bool {
	size := len(tree.Twigs)
	if size < 1 || size > maxTwigs {
		return false
	}
	var named []int
	for place, twig := range tree.Twigs {
		if twig.To < 0 || twig.To > 99 {
			return false
		}
		for _, next := range []int{twig.Zero, twig.One} {
			if next != 0 && (next <= place || next >= size) {
				return false
			}
			if next != 0 {
				named = append(named, next)
			}
		}
	}
	slices.Sort(named)
	for place, next := range named {
		if next != place+1 {
			return false
		}
	}
	return len(named) == size-1
}

// pathsOf tells for each twig of a right tree the bits that lead to it.
func pathsOf(tree impl.Trie) []string {
	paths := make([]string, len(tree.Twigs))
	for place, twig := range tree.Twigs {
		if twig.Zero != 0 {
			paths[twig.Zero] = paths[place] + "0"
		}
		if twig.One != 0 {
			paths[twig.One] = paths[place] + "1"
		}
	}
	return paths
}

// triePutLike knows twigs by their paths alone.
func triePutLike(tree impl.Trie, p impl.Prefix, to int) (impl.Trie, bool) {
	if !trieRightLike(tree) || !prefixRightLike(p) || to < 0 || to > 99 {
		return tree, false
	}
	paths, twigs := pathsOf(tree), slices.Clone(tree.Twigs)
	whole := bitsLike(p.Addr)[:p.Len]
	for size := 1; size <= p.Len; size++ {
		if slices.Contains(paths, whole[:size]) {
			continue
		}
		from := slices.Index(paths, whole[:size-1])
		if whole[size-1] == '0' {
			twigs[from].Zero = len(twigs)
		} else {
			twigs[from].One = len(twigs)
		}
		paths, twigs = append(paths, whole[:size]), append(twigs, impl.Twig{})
	}
	twigs[slices.Index(paths, whole)].To = to
	if len(twigs) > maxTwigs {
		return tree, false
	}
	return impl.Trie{Twigs: twigs}, true
}

// trieFindLike asks every twig whether its path is a beginning of the address.
func trieFindLike(tree impl.Trie, a int) int {
	found, best := 0, -1
	if !trieRightLike(tree) || a < 0 || a > maxAddr {
		return 0
	}
	for place, path := range pathsOf(tree) {
		to := tree.Twigs[place].To
		if to != 0 && len(path) > best && strings.HasPrefix(bitsLike(a), path) {
			found, best = to, len(path)
		}
	}
	return found
}

// chainOf has one twig behind the other, by Zero or by One, with its place as To.
func chainOf(size int, one bool) impl.Trie {
	twigs := make([]impl.Twig, size)
	for place := range twigs {
		twigs[place].To = place % 100
		if place+1 < size && one {
			twigs[place].One = place + 1
		} else if place+1 < size {
			twigs[place].Zero = place + 1
		}
	}
	return impl.Trie{Twigs: twigs}
}

// drawnTrie is put by the reference until it has just as many twigs.
func drawnTrie(seed int64, size int) impl.Trie {
	draw := rand.New(rand.NewSource(seed))
	tree := trieOf(impl.Twig{})
	for len(tree.Twigs) < size {
		p := prefixLike(int(draw.Uint32()), draw.Intn(maxLen+1))
		next, _ := triePutLike(tree, p, draw.Intn(100))
		if len(next.Twigs) <= size {
			tree = next
		}
	}
	return tree
}

func triesOfNote() []impl.Trie {
	return []impl.Trie{
		trieOf(impl.Twig{}),
		trieOf(impl.Twig{To: 1}),
		trieOf(impl.Twig{To: 99}),
		trieOf(impl.Twig{Zero: 1}, impl.Twig{To: 5}),
		trieOf(impl.Twig{One: 1}, impl.Twig{To: 5}),
		trieOf(impl.Twig{Zero: 1, One: 2, To: 9}, impl.Twig{To: 5}, impl.Twig{To: 99}),
		trieOf(impl.Twig{Zero: 2, One: 1, To: 9}, impl.Twig{To: 5}, impl.Twig{To: 99}),
		trieOf(impl.Twig{One: 1}, impl.Twig{Zero: 3, One: 2, To: 1}, impl.Twig{One: 4}, impl.Twig{To: 4}, impl.Twig{To: 6}),
		chainOf(33, false),
		chainOf(33, true),
		chainOf(40, false),
		chainOf(maxTwigs, false),
		chainOf(maxTwigs, true),
		drawnTrie(141, 60),
		drawnTrie(142, maxTwigs-1),
		drawnTrie(143, maxTwigs),
	}
}

// wrongTries are trees that are wrong in just one thing each.
func wrongTries() []impl.Trie {
	list := []impl.Trie{
		{},
		{Twigs: []impl.Twig{}},
		chainOf(maxTwigs+1, false),
		chainOf(maxTwigs+1, true),
		chainOf(maxTwigs+2, false),
		trieOf(impl.Twig{}, impl.Twig{}),
		trieOf(impl.Twig{Zero: 1}, impl.Twig{}, impl.Twig{To: 3}),
		trieOf(impl.Twig{Zero: 2}, impl.Twig{To: 3}, impl.Twig{}),
		trieOf(impl.Twig{Zero: 1, One: 1}, impl.Twig{To: 3}),
		trieOf(impl.Twig{Zero: 1, One: 2}, impl.Twig{Zero: 3}, impl.Twig{Zero: 3}, impl.Twig{To: 3}),
		trieOf(impl.Twig{Zero: 1, One: 2}, impl.Twig{One: 2}, impl.Twig{To: 3}),
		trieOf(impl.Twig{Zero: 1}, impl.Twig{Zero: 2, One: 2}, impl.Twig{To: 3}),
		trieOf(impl.Twig{Zero: 1}, impl.Twig{One: 1, To: 3}),
		trieOf(impl.Twig{}, impl.Twig{Zero: 1, To: 3}),
		trieOf(impl.Twig{Zero: 2}, impl.Twig{To: 3}, impl.Twig{Zero: 1}),
		trieOf(impl.Twig{Zero: 2}, impl.Twig{To: 3}, impl.Twig{One: 1}),
		trieOf(impl.Twig{Zero: 1}, impl.Twig{Zero: 2}, impl.Twig{Zero: 1, To: 3}),
		trieOf(impl.Twig{To: 3}, impl.Twig{Zero: 2}, impl.Twig{Zero: 1}),
	}
	for _, next := range []int{-1, -2, 3, 4, maxTwigs, maxTwigs + 1, 1<<32 + 1, math.MinInt, math.MinInt + 1, math.MaxInt} {
		for place := range 3 {
			for _, one := range []bool{false, true} {
				tree := trieOf(impl.Twig{Zero: 1, To: 3}, impl.Twig{One: 2}, impl.Twig{To: 4})
				if one {
					tree = trieOf(impl.Twig{One: 1, To: 3}, impl.Twig{Zero: 2}, impl.Twig{To: 4})
				}
				if twig := &tree.Twigs[place]; twig.Zero == 0 {
					twig.Zero = next
				} else {
					twig.One = next
				}
				list = append(list, tree)
			}
		}
	}
	for _, to := range twigTosOutside() {
		list = append(list, trieOf(impl.Twig{To: to}), trieOf(impl.Twig{Zero: 1, One: 2}, impl.Twig{To: 1}, impl.Twig{To: to}))
		tree := chainOf(maxTwigs, false)
		tree.Twigs[200].To = to
		list = append(list, tree)
	}
	return list
}

func twigTosOutside() []int {
	return slices.DeleteFunc(tosOutside(), func(to int) bool { return to == 0 })
}

func checkTrie(t *testing.T, tree impl.Trie, want bool) {
	t.Helper()
	lent, room := inRoom(tree.Twigs, spareTwig)
	before := slices.Clone(room)
	if got := impl.TrieOk(impl.Trie{Twigs: lent}); got != want {
		t.Errorf("TrieOk(%v) = %v; want %v", tree, got, want)
	}
	if !slices.Equal(room, before) {
		t.Errorf("TrieOk(%v) wrote into its argument", tree)
	}
}

func checkTriePut(t *testing.T, tree impl.Trie, p impl.Prefix, to int, want impl.Trie, right bool) {
	t.Helper()
	lent, room := inRoom(tree.Twigs, spareTwig)
	before := slices.Clone(room)
	got, ok := impl.TriePut(impl.Trie{Twigs: lent}, p, to)
	if !sameTrie(got, want) || ok != right {
		t.Errorf("TriePut(%v, %v, %d) = %v, %v; want %v, %v", tree, p, to, got, ok, want, right)
	}
	checkApart(t, "TriePut", room, before, got.Twigs, spareTwig)
}

func checkTrieFind(t *testing.T, tree impl.Trie, a, want int) {
	t.Helper()
	lent, room := inRoom(tree.Twigs, spareTwig)
	before := slices.Clone(room)
	if got := impl.TrieFind(impl.Trie{Twigs: lent}, a); got != want {
		t.Errorf("TrieFind(%v, %d) = %d; want %d", tree, a, got, want)
	}
	if !slices.Equal(room, before) {
		t.Errorf("TrieFind(%v, %d) wrote into its argument", tree, a)
	}
}

func checkTrieOf(t *testing.T, list []impl.Route, want impl.Trie) {
	t.Helper()
	lent, room := inRoom(list, spareRoute)
	before := slices.Clone(room)
	got := impl.TrieOf(lent)
	if !sameTrie(got, want) {
		t.Errorf("TrieOf(%v) = %v; want %v", list, got, want)
	}
	filled(got.Twigs, spareTwig)
	if !slices.Equal(room, before) {
		t.Errorf("TrieOf(%v) wrote into its argument", list)
	}
}

// checkFindsWhatRoutesFind asks at the ends of every prefix, just outside of
// them, and elsewhere.
func checkFindsWhatRoutesFind(t *testing.T, list []impl.Route) {
	t.Helper()
	tree := impl.TrieOf(list)
	addrs := []int{0, 1, 167772418, 1<<31 - 1, 1 << 31, maxAddr - 1, maxAddr, -1, maxAddr + 1}
	for _, r := range list {
		first, last := r.Prefix.Addr, lastOf(r.Prefix)
		addrs = append(addrs, first, last, first-1, last+1, first+(last-first)/2, first^1, last^1)
	}
	for _, a := range addrs {
		got, found := impl.TrieFind(tree, a), impl.LookUp(list, a)
		if got != found || got != lookUpLike(list, a) {
			t.Errorf("the tree of %v finds %d at %d; LookUp finds %d", list, got, a, found)
		}
	}
}

func trieOfLike(list []impl.Route) impl.Trie {
	tree := trieOf(impl.Twig{})
	for _, r := range list {
		tree, _ = triePutLike(tree, r.Prefix, r.To)
	}
	return tree
}

func TestANewTreeIsTheRootAlone(t *testing.T) {
	for range 3 {
		tree := impl.TrieNew()
		if !sameTrie(tree, trieOf(impl.Twig{})) {
			t.Errorf("TrieNew() = %v", tree)
		}
		checkTrie(t, tree, true)
		for _, a := range append(addrsOfNote(), addrsOutside()...) {
			checkTrieFind(t, tree, a, 0)
		}
		filled(tree.Twigs, spareTwig)
	}
}

func TestTreesOfNoteAreRight(t *testing.T) {
	for _, tree := range triesOfNote() {
		if !trieRightLike(tree) {
			t.Fatalf("%v is not right", tree)
		}
		checkTrie(t, tree, true)
	}
	for to := range 100 {
		checkTrie(t, trieOf(impl.Twig{To: to}), true)
		checkTrie(t, trieOf(impl.Twig{One: 1}, impl.Twig{To: to}), true)
	}
}

func TestTreesThatAreNotRight(t *testing.T) {
	for _, tree := range wrongTries() {
		if trieRightLike(tree) {
			t.Fatalf("%v is right", tree)
		}
		checkTrie(t, tree, false)
		for _, p := range []impl.Prefix{{}, {Addr: 1 << 31, Len: 1}, {Addr: 5, Len: 32}} {
			checkTriePut(t, tree, p, 0, tree, false)
			checkTriePut(t, tree, p, 7, tree, false)
		}
		for _, a := range []int{0, 1, 1 << 30, 1 << 31, 3 << 30, maxAddr} {
			checkTrieFind(t, tree, a, 0)
		}
	}
}

func TestAGreatTreeIsNotRight(t *testing.T) {
	tree := chainOf(100000, false)
	checkTrie(t, tree, false)
	checkTriePut(t, tree, impl.Prefix{}, 1, tree, false)
	checkTrieFind(t, tree, 0, 0)
}

func TestTreesOfFixedAnswers(t *testing.T) {
	root := trieOf(impl.Twig{})
	one := trieOf(impl.Twig{One: 1}, impl.Twig{To: 5})
	two := trieOf(impl.Twig{Zero: 2, One: 1}, impl.Twig{To: 5}, impl.Twig{One: 3}, impl.Twig{To: 7})
	three := trieOf(impl.Twig{Zero: 2, One: 1}, impl.Twig{Zero: 4, To: 5}, impl.Twig{One: 3}, impl.Twig{To: 7}, impl.Twig{One: 5}, impl.Twig{To: 9})
	checkTriePut(t, root, impl.Prefix{Addr: 1 << 31, Len: 1}, 5, one, true)
	checkTriePut(t, one, impl.Prefix{Addr: 1 << 30, Len: 2}, 7, two, true)
	checkTriePut(t, two, impl.Prefix{Addr: 5 << 29, Len: 3}, 9, three, true)
	checkTriePut(t, one, impl.Prefix{}, 3, trieOf(impl.Twig{One: 1, To: 3}, impl.Twig{To: 5}), true)
	checkTriePut(t, one, impl.Prefix{Addr: 1 << 31, Len: 1}, 6, trieOf(impl.Twig{One: 1}, impl.Twig{To: 6}), true)
	checkTriePut(t, one, impl.Prefix{Addr: 1 << 31, Len: 1}, 0, trieOf(impl.Twig{One: 1}, impl.Twig{}), true)
	checkTriePut(t, root, impl.Prefix{Addr: 1 << 31, Len: 1}, 0, trieOf(impl.Twig{One: 1}, impl.Twig{}), true)
	for _, c := range []struct{ a, want int }{
		{0, 0}, {1<<30 - 1, 0}, {1 << 30, 7}, {1<<31 - 1, 7}, {1 << 31, 5}, {5<<29 - 1, 5}, {5 << 29, 9}, {6<<29 - 1, 9}, {6 << 29, 5}, {maxAddr, 5},
	} {
		checkTrieFind(t, three, c.a, c.want)
	}
	checkTrieOf(t, []impl.Route{routeAt(0, 0, 4), routeAt(1<<30, 2, 7), routeAt(1<<31, 1, 5)}, trieOf(impl.Twig{Zero: 1, One: 3, To: 4}, impl.Twig{One: 2}, impl.Twig{To: 7}, impl.Twig{To: 5}))
}

func TestTheLastBitOfAnAddress(t *testing.T) {
	for _, a := range addrsOfNote() {
		p := impl.Prefix{Addr: a, Len: 32}
		tree, ok := impl.TriePut(impl.TrieNew(), p, 42)
		if !ok || len(tree.Twigs) != 33 || tree.Twigs[32] != (impl.Twig{To: 42}) {
			t.Fatalf("TriePut(root, %v, 42) = %v, %v", p, tree, ok)
		}
		last := impl.Twig{Zero: 32}
		if a%2 == 1 {
			last = impl.Twig{One: 32}
		}
		if tree.Twigs[31] != last {
			t.Errorf("the last twig but one of %v is %v", p, tree.Twigs[31])
		}
		checkTrieFind(t, tree, a, 42)
		checkTrieFind(t, tree, a^1, 0)
		both, ok := impl.TriePut(tree, impl.Prefix{Addr: a ^ 1, Len: 32}, 43)
		if !ok || len(both.Twigs) != 34 || both.Twigs[31] != (impl.Twig{Zero: 33 - (a+1)%2, One: 32 + (a+1)%2}) {
			t.Errorf("TriePut(%v, /32 of %d, 43) = %v, %v", tree, a^1, both, ok)
		}
		checkTrieFind(t, both, a, 42)
		checkTrieFind(t, both, a^1, 43)
	}
}

func TestTheRootIsTheLastOfLenNought(t *testing.T) {
	for _, tree := range triesOfNote() {
		for _, to := range []int{0, 1, 50, 99} {
			want := impl.Trie{Twigs: slices.Clone(tree.Twigs)}
			want.Twigs[0].To = to
			checkTriePut(t, tree, impl.Prefix{}, to, want, true)
		}
	}
	for to := range 100 {
		tree, _ := impl.TriePut(impl.TrieNew(), impl.Prefix{}, to)
		for _, a := range []int{0, 5, 1 << 31, maxAddr} {
			checkTrieFind(t, tree, a, to)
		}
		checkTrieFind(t, tree, -1, 0)
		checkTrieFind(t, tree, maxAddr+1, 0)
	}
}

func TestTheEndsOfAPrefixInATree(t *testing.T) {
	for _, a := range addrsOfNote() {
		for n := range maxLen + 1 {
			p := prefixLike(a, n)
			tree, ok := impl.TriePut(impl.TrieNew(), p, 42)
			if !ok || len(tree.Twigs) != n+1 || !impl.TrieOk(tree) {
				t.Fatalf("TriePut(root, %v, 42) = %v, %v", p, tree, ok)
			}
			for _, c := range []struct{ a, want int }{{p.Addr, 42}, {lastOf(p), 42}, {a, 42}, {p.Addr - 1, 0}, {lastOf(p) + 1, 0}} {
				if got := impl.TrieFind(tree, c.a); got != c.want {
					t.Fatalf("the tree of %v finds %d at %d; want %d", p, got, c.a, c.want)
				}
			}
		}
	}
}

func TestATreeMayBeDeeperThanAnAddress(t *testing.T) {
	for _, size := range []int{31, 32, 33, 34, 35, 66, 99, 100, maxTwigs} {
		for _, one := range []bool{false, true} {
			tree, a := chainOf(size, one), 0
			if one {
				a = maxAddr
			}
			checkTrie(t, tree, true)
			checkTrieFind(t, tree, a, min(size-1, 32))
			checkTrieFind(t, tree, a^1, min(size-1, 31))
			checkTrieFind(t, tree, a^2, min(size-1, 30))
			checkTrieFind(t, tree, a^1<<31, 0)
			for depth := range min(size, 33) {
				want := impl.Trie{Twigs: slices.Clone(tree.Twigs)}
				want.Twigs[depth].To = 77
				checkTriePut(t, tree, prefixLike(a, depth), 77, want, true)
			}
		}
	}
}

func TestFoundInTreesOfNote(t *testing.T) {
	for _, tree := range triesOfNote() {
		for _, a := range addrsOfNote() {
			checkTrieFind(t, tree, a, trieFindLike(tree, a))
		}
		for _, a := range addrsOutside() {
			checkTrieFind(t, tree, a, 0)
		}
	}
}

func TestWhatIsPutIntoATreeIsFound(t *testing.T) {
	draw := rand.New(rand.NewSource(144))
	for _, tree := range triesOfNote() {
		for range 40 {
			p, to := drawnPrefix(draw), draw.Intn(100)
			want, right := triePutLike(tree, p, to)
			checkTriePut(t, tree, p, to, want, right)
			checkTrie(t, want, true)
			for _, a := range []int{p.Addr, lastOf(p), p.Addr - 1, lastOf(p) + 1, p.Addr ^ 1<<31} {
				checkTrieFind(t, want, a, trieFindLike(want, a))
			}
		}
	}
}

func TestPutAgainAddsNoTwig(t *testing.T) {
	for seed := range int64(6) {
		list := drawnRoutes(150+seed, maxRoutes)
		tree := impl.TrieOf(list)
		for _, r := range list {
			for _, to := range []int{0, 1, 99, r.To} {
				got, ok := impl.TriePut(tree, r.Prefix, to)
				if !ok || len(got.Twigs) != len(tree.Twigs) || !impl.TrieOk(got) {
					t.Errorf("TriePut(%v, %v, %d) = %v, %v", tree, r.Prefix, to, got, ok)
				}
				again, _ := impl.TriePut(got, r.Prefix, r.To)
				if !sameTrie(again, tree) {
					t.Errorf("%v put with %d and again is %v; want %v", r, to, again, tree)
				}
				if to == 0 {
					left, _ := dropLike(list, r.Prefix)
					checkTrieFind(t, got, r.Prefix.Addr, lookUpLike(left, r.Prefix.Addr))
				}
			}
		}
	}
}

// freshOf is a prefix that brings just so many new twigs to the tree.
func freshOf(t *testing.T, tree impl.Trie, more int) impl.Prefix {
	t.Helper()
	paths := pathsOf(tree)
	for a := 0; a <= maxAddr; a += 1 << 20 {
		for n := more; n <= maxLen; n++ {
			whole := bitsLike(a)[:n]
			if !slices.Contains(paths, whole[:n-more+1]) && slices.Contains(paths, whole[:n-more]) {
				return prefixLike(a, n)
			}
		}
	}
	t.Fatalf("no prefix brings %d twigs to %v", more, tree)
	return impl.Prefix{}
}

func TestFourHundredTwigsAndOneMore(t *testing.T) {
	for seed := range int64(3) {
		for _, more := range []int{1, 2, 3, 9} {
			tree := drawnTrie(160+seed, maxTwigs-more)
			just, past := freshOf(t, tree, more), freshOf(t, tree, more+1)
			want, right := triePutLike(tree, just, 8)
			if !right || len(want.Twigs) != maxTwigs {
				t.Fatalf("%d twigs come; want 400", len(want.Twigs))
			}
			checkTriePut(t, tree, just, 8, want, true)
			checkTriePut(t, tree, past, 8, tree, false)
			again, _ := triePutLike(want, just, 9)
			checkTriePut(t, want, just, 9, again, true)
			checkTriePut(t, want, freshOf(t, want, 1), 8, want, false)
			checkTrie(t, want, true)
			checkTrieFind(t, want, just.Addr, trieFindLike(want, just.Addr))
		}
	}
	chain := chainOf(maxTwigs, false)
	checkTriePut(t, chain, impl.Prefix{Addr: 1, Len: 32}, 8, chain, false)
	checkTriePut(t, chain, impl.Prefix{Addr: 1 << 31, Len: 1}, 0, chain, false)
	less := chainOf(maxTwigs-32, false)
	all, _ := triePutLike(less, impl.Prefix{Addr: maxAddr, Len: 32}, 8)
	checkTriePut(t, less, impl.Prefix{Addr: maxAddr, Len: 32}, 8, all, true)
	less = chainOf(maxTwigs-31, false)
	checkTriePut(t, less, impl.Prefix{Addr: maxAddr, Len: 32}, 8, less, false)
}

func TestWrongPutsLeaveATreeAsItIs(t *testing.T) {
	for _, tree := range triesOfNote() {
		for _, to := range twigTosOutside() {
			checkTriePut(t, tree, impl.Prefix{}, to, tree, false)
			checkTriePut(t, tree, impl.Prefix{Len: 1}, to, tree, false)
		}
		for _, p := range wrongPrefixes() {
			checkTriePut(t, tree, p, 0, tree, false)
			checkTriePut(t, tree, p, 7, tree, false)
		}
	}
}

func TestATreeFindsWhatRoutesFind(t *testing.T) {
	lists := routesOfNote()
	for seed := range int64(60) {
		lists = append(lists, drawnRoutes(300+seed, int(seed)%(maxRoutes+1)))
	}
	for _, list := range lists {
		want := trieOfLike(list)
		checkTrieOf(t, list, want)
		checkTrie(t, want, true)
		checkFindsWhatRoutesFind(t, list)
	}
}

func TestTwelveRoutesOfMostTwigsHaveRoom(t *testing.T) {
	var list []impl.Route
	for place := range maxRoutes {
		list = append(list, routeAt(place<<28, 32, place+1))
	}
	tree := impl.TrieOf(list)
	if !impl.TrieOk(tree) || len(tree.Twigs) != len(trieOfLike(list).Twigs) {
		t.Errorf("TrieOf(%v) has %d twigs", list, len(tree.Twigs))
	}
	checkFindsWhatRoutesFind(t, list)
}

func TestATreeOfNoRoutesAndOfWrongOnes(t *testing.T) {
	checkTrieOf(t, nil, trieOf(impl.Twig{}))
	checkTrieOf(t, []impl.Route{}, trieOf(impl.Twig{}))
	for _, list := range wrongRoutes() {
		checkTrieOf(t, list, impl.Trie{})
		for _, a := range []int{0, 5, 167772160, 1 << 31, maxAddr} {
			checkTrieFind(t, impl.TrieOf(list), a, impl.LookUp(list, a))
		}
	}
}

func TestTheOrderOfPutsIsThatOfTwigs(t *testing.T) {
	draw := rand.New(rand.NewSource(145))
	for range 30 {
		tree, like := impl.TrieNew(), trieOf(impl.Twig{})
		for range 25 {
			p, to := drawnPrefix(draw), draw.Intn(103)-1
			got, ok := impl.TriePut(tree, p, to)
			want, right := triePutLike(like, p, to)
			if !sameTrie(got, want) || ok != right || !impl.TrieOk(got) {
				t.Fatalf("TriePut(%v, %v, %d) = %v, %v; want %v, %v", tree, p, to, got, ok, want, right)
			}
			tree, like = got, want
		}
	}
}

func TestRefusedTreesLeaveNothingBehind(t *testing.T) {
	tree := drawnTrie(146, maxTwigs)
	for range 3 {
		checkTriePut(t, tree, freshOf(t, tree, 2), 5, tree, false)
		checkTriePut(t, trieOf(impl.Twig{}), impl.Prefix{Addr: 1 << 31, Len: 1}, 100, trieOf(impl.Twig{}), false)
		checkTrieFind(t, tree, -1, 0)
		checkTrieOf(t, wrongRoutes()[0], impl.Trie{})
		checkTrie(t, tree, true)
		if got := impl.TrieNew(); !sameTrie(got, trieOf(impl.Twig{})) {
			t.Errorf("TrieNew() = %v", got)
		}
		checkTriePut(t, trieOf(impl.Twig{}), impl.Prefix{Len: 1}, 5, trieOf(impl.Twig{Zero: 1}, impl.Twig{To: 5}), true)
	}
}
