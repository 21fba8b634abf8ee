package tests

import (
	"math"
	"math/rand"
	"slices"
	"sync"
	"testing"

	"loop.example/g00193/impl"
)

const (
	replaySpan = 6
	spareSeen  = 77
)

// seenRightLike holds each number against all that are ahead of it.
func seenRightLike(seen []int) bool {
	if len(seen) > replaySpan {
		return false
	}
	for place, n := range seen {
		if n < 1 || n > mostNum {
			return false
		}
		if slices.ContainsFunc(seen[:place], func(ahead int) bool { return ahead <= n || ahead-n >= replaySpan }) {
			return false
		}
	}
	return true
}

func checkSeen(t *testing.T, seen []int, want bool) {
	t.Helper()
	lent, room := inRoom(seen, spareSeen)
	were := slices.Clone(room)
	if got := impl.SeenOk(lent); got != want {
		t.Errorf("SeenOk(%v) = %v; want %v", seen, got, want)
	}
	if !slices.Equal(room, were) {
		t.Errorf("SeenOk wrote into its argument: %v; want %v", room, were)
	}
}

// downFrom are so many numbers, each one less than the one ahead of it.
func downFrom(first, size int) []int {
	var list []int
	for by := range size {
		list = append(list, first-by)
	}
	return list
}

func rightSeen() [][]int {
	return [][]int{
		nil,
		{},
		{1},
		{2},
		{2, 1},
		{6, 1},
		{6, 5, 4, 3, 2, 1},
		{7, 6, 5, 4, 3, 2},
		{7, 2},
		{12, 7},
		{12, 10, 7},
		{12, 11, 7},
		{12, 8, 7},
		{mostNum},
		{mostNum, mostNum - 1},
		{mostNum, mostNum - 5},
		downFrom(mostNum, replaySpan),
		downFrom(mostNum-1, replaySpan),
		downFrom(1000, replaySpan),
		downFrom(1000, replaySpan-1),
	}
}

func wrongSeen() [][]int {
	return [][]int{
		{0},
		{-1},
		{mostNum + 1},
		{mostNum + 1, mostNum},
		{math.MinInt},
		{math.MinInt + 5},
		{math.MaxInt},
		{math.MaxInt, math.MinInt},
		{math.MinInt, math.MaxInt},
		{math.MaxInt, 1},
		{1, math.MinInt},
		{1, 0},
		{1, -1},
		{1, 0, -1},
		{5, 0},
		{5, 4, 3, 2, 1, 0},
		{5, 5},
		{1, 1},
		{1, 2},
		{5, 4, 4},
		{5, 4, 4, 3},
		{5, 3, 4},
		{5, 4, 6},
		{1, 2, 3, 4, 5, 6},
		{7, 1},
		{7, 6, 1},
		{12, 6},
		{12, 11, 10, 9, 8, 6},
		{mostNum, mostNum - 6},
		{mostNum, 1},
		{1<<32 + 1, 1},
		downFrom(7, replaySpan+1),
		downFrom(1000, replaySpan+1),
		downFrom(mostNum, replaySpan+1),
		downFrom(mostNum+1, replaySpan),
		slices.Repeat([]int{5}, replaySpan),
		slices.Repeat([]int{5}, replaySpan+1),
	}
}

func TestConstantsOfNumbersSeen(t *testing.T) {
	if impl.ReplaySpan != replaySpan {
		t.Errorf("ReplaySpan is %d; want 6", impl.ReplaySpan)
	}
}

func TestNumbersSeen(t *testing.T) {
	for _, seen := range rightSeen() {
		checkSeen(t, seen, true)
	}
	for _, seen := range wrongSeen() {
		checkSeen(t, seen, false)
	}
}

func TestHowManyNumbersAreSeen(t *testing.T) {
	for size := range 40 {
		checkSeen(t, downFrom(1000, size), size <= replaySpan)
	}
	checkSeen(t, downFrom(mostNum, 100000), false)
}

func TestTwoNumbersSeen(t *testing.T) {
	for first := -2; first <= 20; first++ {
		for second := -2; second <= 20; second++ {
			checkSeen(t, []int{first, second}, second > 0 && first > second && first-second < replaySpan)
		}
	}
	for by := range 20 {
		checkSeen(t, []int{mostNum, mostNum - by}, by > 0 && by < replaySpan)
	}
}

func TestNumbersSeenOutside(t *testing.T) {
	for _, wrong := range append(numsOutside(), 0) {
		checkSeen(t, []int{wrong}, false)
		for place := range replaySpan {
			seen := downFrom(9, replaySpan)
			seen[place] = wrong
			checkSeen(t, seen, false)
		}
	}
}

// Each list of up to four numbers from 0 to 8 is asked.
func TestEachSmallListOfNumbersSeen(t *testing.T) {
	right := 0
	var try func(seen []int)
	try = func(seen []int) {
		want := seenRightLike(seen)
		checkSeen(t, seen, want)
		if want {
			right++
		}
		if len(seen) < 4 {
			for n := range 9 {
				try(append(slices.Clone(seen), n))
			}
		}
	}
	try(nil)
	if right < 50 {
		t.Errorf("only %d lists are right", right)
	}
}

// Each choice of numbers from 1 to 10, told downwards, is asked.
func TestEachChoiceOfNumbersSeen(t *testing.T) {
	for bits := range 1 << 10 {
		var seen []int
		for n := 10; n > 0; n-- {
			if bits>>(n-1)&1 == 1 {
				seen = append(seen, n)
			}
		}
		checkSeen(t, seen, len(seen) == 0 || seen[0]-seen[len(seen)-1] < replaySpan)
	}
}

func TestDrawnNumbersSeen(t *testing.T) {
	draw := rand.New(rand.NewSource(230))
	right := 0
	for range 20000 {
		var seen []int
		n := []int{1 + draw.Intn(15), near(draw, mostNum-3, mostNum)}[draw.Intn(2)]
		for range draw.Intn(replaySpan + 2) {
			seen = append(seen, n)
			n -= []int{1, 1, 1, 1, 1, 2, 2, 3, 0, -1}[draw.Intn(10)]
		}
		want := seenRightLike(seen)
		checkSeen(t, seen, want)
		if want {
			right++
		}
	}
	if right < 2000 || right > 18000 {
		t.Errorf("%d of the drawn lists are right", right)
	}
}

// freshLike counts how far n is behind the first.
func freshLike(seen []int, n int) bool {
	if !seenRightLike(seen) || n < 1 || n > mostNum || slices.Contains(seen, n) {
		return false
	}
	return len(seen) == 0 || seen[0]-n < replaySpan
}

// noteLike sorts all of them, and leaves out what is too far behind then.
func noteLike(seen []int, n int) []int {
	if !freshLike(seen, n) {
		return seen
	}
	all := append(slices.Clone(seen), n)
	slices.Sort(all)
	slices.Reverse(all)
	return slices.DeleteFunc(all, func(one int) bool { return one <= all[0]-replaySpan })
}

// takeAllLike forgets nothing: it has all that were ever taken, and the greatest.
func takeAllLike(list []int) []int {
	var taken []int
	ever := map[int]bool{}
	greatest := 0
	for _, n := range list {
		if n >= 1 && n <= mostNum && !ever[n] && n > greatest-replaySpan {
			taken = append(taken, n)
			ever[n] = true
			greatest = max(greatest, n)
		}
	}
	return taken
}

func checkFresh(t *testing.T, seen []int, n int, want bool) {
	t.Helper()
	lent, room := inRoom(seen, spareSeen)
	were := slices.Clone(room)
	if got := impl.IsFresh(lent, n); got != want {
		t.Errorf("IsFresh(%v, %d) = %v; want %v", seen, n, got, want)
	}
	if !slices.Equal(room, were) {
		t.Errorf("IsFresh wrote into its argument: %v; want %v", room, were)
	}
}

func checkNote(t *testing.T, seen []int, n int, want []int) {
	t.Helper()
	lent, room := inRoom(seen, spareSeen)
	were := slices.Clone(room)
	got := impl.NoteSeen(lent, n)
	if !slices.Equal(got, want) {
		t.Errorf("NoteSeen(%v, %d) = %v; want %v", seen, n, got, want)
	}
	if impl.SeenOk(seen) && !impl.SeenOk(got) {
		t.Errorf("NoteSeen(%v, %d) = %v, which is not right", seen, n, got)
	}
	checkDisjoint(t, "NoteSeen", []memory{memoryOf(room, true, "seen"), memoryOf(got, false, "the answer")}, false)
	checkApart(t, "NoteSeen", room, were, got, -3)
}

// checkTaken notes n, which must be fresh, and not be so behind that.
func checkTaken(t *testing.T, seen []int, n int, want []int) {
	t.Helper()
	checkFresh(t, seen, n, true)
	checkNote(t, seen, n, want)
	checkFresh(t, want, n, false)
	checkNote(t, want, n, want)
}

func checkNotTaken(t *testing.T, seen []int, n int) {
	t.Helper()
	checkFresh(t, seen, n, false)
	checkNote(t, seen, n, seen)
}

func checkNoteLike(t *testing.T, seen []int, n int) {
	t.Helper()
	if freshLike(seen, n) {
		checkTaken(t, seen, n, noteLike(seen, n))
	} else {
		checkNotTaken(t, seen, n)
	}
}

// beginOf is what is told of a list: of a long one not all.
func beginOf(list []int) []int {
	return list[:min(len(list), 60)]
}

// checkOnce is promise 18 of numbers that were taken.
func checkOnce(t *testing.T, list, taken []int) {
	t.Helper()
	ever := map[int]bool{}
	for _, n := range taken {
		if ever[n] {
			t.Errorf("of %v %d is taken twice: %v", beginOf(list), n, beginOf(taken))
			return
		}
		ever[n] = true
	}
}

func checkTakeAll(t *testing.T, list, want []int) {
	t.Helper()
	lent, room := inRoom(list, spareSeen)
	were := slices.Clone(room)
	got := impl.TakeAll(lent)
	if !slices.Equal(got, want) {
		t.Errorf("TakeAll(%v) = %v; want %v", beginOf(list), beginOf(got), beginOf(want))
	}
	checkOnce(t, list, got)
	checkDisjoint(t, "TakeAll", []memory{memoryOf(room, true, "list"), memoryOf(got, false, "the answer")}, false)
	checkApart(t, "TakeAll", room, were, got, -3)
}

// oneByOne is what TakeAll says of itself: each that is fresh is noted.
func oneByOne(list []int) []int {
	var seen, taken []int
	for _, n := range list {
		if impl.IsFresh(seen, n) {
			taken = append(taken, n)
		}
		seen = impl.NoteSeen(seen, n)
	}
	return taken
}

func checkTakeAllLike(t *testing.T, list []int) {
	t.Helper()
	want := takeAllLike(list)
	checkTakeAll(t, list, want)
	if got := oneByOne(list); !slices.Equal(got, want) {
		t.Errorf("IsFresh and NoteSeen take %v of %v; want %v", got, list, want)
	}
	checkTakeAll(t, want, want)
}

// upFrom are so many numbers, each one more than the one ahead of it.
func upFrom(first, size int) []int {
	list := downFrom(first+size-1, size)
	slices.Reverse(list)
	return list
}

func TestFixedFreshNumbers(t *testing.T) {
	rows := []struct {
		seen  []int
		fresh []int
		old   []int
	}{
		{nil, []int{1, 2, 6, 7, mostNum - 1, mostNum}, []int{0, -1, -5, -6, -7, mostNum + 1}},
		{[]int{1}, []int{2, 3, 7, 8, mostNum}, []int{1, 0, -1, -4, -5, -6, mostNum + 1}},
		{[]int{5}, []int{1, 2, 4, 6}, []int{5, 0, -1, -2}},
		{[]int{6}, []int{1, 2, 5, 7}, []int{6, 0, -1}},
		{[]int{7}, []int{2, 3, 6, 8}, []int{7, 1, 0, -1}},
		{[]int{9}, []int{4, 5, 8, 10, 15, 16}, []int{9, 3, 2, 1, 0}},
		{[]int{9, 8, 6}, []int{4, 5, 7, 10, 11}, []int{9, 8, 6, 3, 2, 1}},
		{[]int{12, 7}, []int{8, 9, 10, 11, 13}, []int{12, 7, 6, 5, 1}},
		{[]int{6, 5, 4, 3, 2, 1}, []int{7, 8, 12, 13}, []int{6, 5, 4, 3, 2, 1, 0}},
		{downFrom(1000, replaySpan), []int{1001, 1006, 1007}, []int{1000, 999, 995, 994, 993, 1}},
		{[]int{mostNum}, []int{mostNum - 1, mostNum - 4, mostNum - 5}, []int{mostNum, mostNum + 1, mostNum - 6, mostNum - 7, 1}},
		{[]int{mostNum - 1}, []int{mostNum, mostNum - 2, mostNum - 6}, []int{mostNum - 1, mostNum + 1, mostNum - 7, mostNum - 8}},
		{downFrom(mostNum, replaySpan), nil, []int{mostNum + 1, mostNum, mostNum - 1, mostNum - 5, mostNum - 6, mostNum - 7, 1}},
	}
	for _, row := range rows {
		for _, n := range row.fresh {
			checkFresh(t, row.seen, n, true)
		}
		for _, n := range row.old {
			checkNotTaken(t, row.seen, n)
		}
	}
}

func TestFixedNotes(t *testing.T) {
	rows := []struct {
		seen []int
		n    int
		want []int
	}{
		{nil, 1, []int{1}},
		{nil, 3, []int{3}},
		{[]int{}, mostNum, []int{mostNum}},
		{[]int{3}, 8, []int{8, 3}},
		{[]int{3}, 9, []int{9}},
		{[]int{3}, 10, []int{10}},
		{[]int{3}, 1, []int{3, 1}},
		{[]int{4, 3}, 9, []int{9, 4}},
		{[]int{9}, 4, []int{9, 4}},
		{[]int{9, 8, 6}, 10, []int{10, 9, 8, 6}},
		{[]int{9, 8, 6}, 7, []int{9, 8, 7, 6}},
		{[]int{9, 8, 6}, 5, []int{9, 8, 6, 5}},
		{[]int{9, 8, 6}, 4, []int{9, 8, 6, 4}},
		{[]int{9, 8, 6}, 11, []int{11, 9, 8, 6}},
		{[]int{9, 8, 6}, 12, []int{12, 9, 8}},
		{[]int{9, 8, 6}, 13, []int{13, 9, 8}},
		{[]int{9, 8, 6}, 14, []int{14, 9}},
		{[]int{9, 8, 6}, 15, []int{15}},
		{[]int{12, 11, 10, 9, 8}, 7, []int{12, 11, 10, 9, 8, 7}},
		{[]int{12, 11, 9, 8, 7}, 10, []int{12, 11, 10, 9, 8, 7}},
		{[]int{6, 5, 4, 3, 2, 1}, 7, []int{7, 6, 5, 4, 3, 2}},
		{[]int{6, 5, 4, 3, 2, 1}, 8, []int{8, 6, 5, 4, 3}},
		{[]int{6, 5, 4, 3, 2, 1}, 11, []int{11, 6}},
		{[]int{6, 5, 4, 3, 2, 1}, 12, []int{12}},
		{[]int{6, 5, 4, 3, 2, 1}, mostNum, []int{mostNum}},
		{[]int{1}, mostNum, []int{mostNum}},
		{[]int{mostNum - 1}, mostNum, []int{mostNum, mostNum - 1}},
		{[]int{mostNum - 5}, mostNum, []int{mostNum, mostNum - 5}},
		{[]int{mostNum - 6}, mostNum, []int{mostNum}},
		{[]int{mostNum}, mostNum - 5, []int{mostNum, mostNum - 5}},
		{downFrom(mostNum-1, replaySpan), mostNum, downFrom(mostNum, replaySpan)},
		{downFrom(mostNum, replaySpan-1), mostNum - 5, downFrom(mostNum, replaySpan)},
	}
	for _, row := range rows {
		checkTaken(t, row.seen, row.n, row.want)
	}
}

func TestFixedTakes(t *testing.T) {
	rows := []struct {
		list []int
		want []int
	}{
		{nil, nil},
		{[]int{}, nil},
		{[]int{1}, []int{1}},
		{[]int{mostNum}, []int{mostNum}},
		{[]int{0}, nil},
		{[]int{-1}, nil},
		{[]int{mostNum + 1}, nil},
		{[]int{math.MinInt, math.MaxInt}, nil},
		{[]int{1, 2, 3}, []int{1, 2, 3}},
		{[]int{3, 2, 1}, []int{3, 2, 1}},
		{[]int{1, 1}, []int{1}},
		{[]int{5, 5, 5, 4, 5, 4}, []int{5, 4}},
		{[]int{1, 2, 3, 2, 1, 3, 4}, []int{1, 2, 3, 4}},
		{[]int{1, 2, 1, 9, 3, 4}, []int{1, 2, 9, 4}},
		{[]int{6, 5, 4, 3, 2, 1}, []int{6, 5, 4, 3, 2, 1}},
		{[]int{9, 8, 7, 6, 5, 4, 3, 2, 1}, []int{9, 8, 7, 6, 5, 4}},
		{[]int{2, 1, 4, 3, 6, 5, 8, 7}, []int{2, 1, 4, 3, 6, 5, 8, 7}},
		{[]int{1, 100, 1, 2, 94, 95, 96, 94, 95}, []int{1, 100, 95, 96}},
		{[]int{10, 4, 5, 4, 5, 10, 11, 5, 6}, []int{10, 5, 11, 6}},
		{[]int{1, 7, 1}, []int{1, 7}},
		{[]int{2, 7, 2, 8, 2}, []int{2, 7, 8}},
		{[]int{3, mostNum + 1, 4, math.MaxInt, 3, 5}, []int{3, 4, 5}},
		{[]int{5, 0, -1, mostNum + 1, math.MinInt, 6, 5, 0}, []int{5, 6}},
		{[]int{mostNum, 1}, []int{mostNum}},
		{[]int{mostNum, mostNum - 6, mostNum - 5, mostNum + 1, mostNum}, []int{mostNum, mostNum - 5}},
		{[]int{1, mostNum, 2, mostNum - 1}, []int{1, mostNum, mostNum - 1}},
	}
	for _, row := range rows {
		checkTakeAll(t, row.list, row.want)
		checkTakeAllLike(t, row.list)
	}
}

// Each choice of numbers that is right, with first ones from 1 on and at
// MaxNumber, is asked of each number beside it.
func TestEachNumberBesideEachChoice(t *testing.T) {
	firsts := append(upFrom(1, 14), 1000, mostNum-7, mostNum-6, mostNum-5, mostNum-1, mostNum)
	for _, first := range firsts {
		for bits := 1; bits < 1<<replaySpan; bits += 2 {
			var seen []int
			for back := range replaySpan {
				if bits>>back&1 == 1 && first-back > 0 {
					seen = append(seen, first-back)
				}
			}
			for n := first - 16; n <= first+16; n++ {
				checkNoteLike(t, seen, n)
			}
		}
	}
}

// A step that is a multiple of a word's bits is as great as any other.
func TestNumbersFarAhead(t *testing.T) {
	for _, seen := range rightSeen() {
		first := append(slices.Clone(seen), 0)[0]
		for power := range 31 {
			for by := -2; by <= 2; by++ {
				checkNoteLike(t, seen, first+1<<power+by)
			}
		}
		for step := 1; step <= 300; step++ {
			checkNoteLike(t, seen, first+step)
		}
	}
}

func TestNumbersFarBehind(t *testing.T) {
	for _, first := range []int{500, 1 << 20, 1 << 29, mostNum} {
		for _, size := range []int{1, 2, replaySpan - 1, replaySpan} {
			seen := downFrom(first, size)
			for back := range 300 {
				if back >= size && back < replaySpan {
					checkFresh(t, seen, first-back, true)
				} else {
					checkNotTaken(t, seen, first-back)
				}
			}
			for power := 3; power < 31; power++ {
				for by := -2; by <= 2; by++ {
					if back := 1<<power + by; back < first && back >= replaySpan {
						checkNotTaken(t, seen, first-back)
					}
				}
			}
			checkNotTaken(t, seen, 1)
		}
	}
}

func TestNumbersOutsideAreNotTaken(t *testing.T) {
	for _, n := range append(numsOutside(), 0) {
		for _, seen := range rightSeen() {
			checkNotTaken(t, seen, n)
		}
		checkTakeAll(t, []int{n}, nil)
		checkTakeAll(t, []int{n, n}, nil)
		checkTakeAll(t, []int{7, n, 8, n, 2, n, 3, 7}, []int{7, 8, 3})
	}
	checkTakeAll(t, append(numsOutside(), 0), nil)
}

func TestNothingIsFreshBesideWrongNumbers(t *testing.T) {
	for _, seen := range wrongSeen() {
		for n := -2; n <= 16; n++ {
			checkNotTaken(t, seen, n)
		}
		for _, n := range append(numsOutside(), mostNum, mostNum-1, mostNum-5, mostNum-6, mostNum-7, 999, 1001) {
			checkNotTaken(t, seen, n)
		}
		for _, n := range seen {
			checkNotTaken(t, seen, n)
		}
	}
}

func TestAsManyAsTheSpanAndOneMore(t *testing.T) {
	for _, first := range []int{7, 8, 1000, mostNum - 1} {
		checkTaken(t, downFrom(first, replaySpan), first+1, downFrom(first+1, replaySpan))
		checkNotTaken(t, downFrom(first, replaySpan+1), first+1)
		for place := range replaySpan {
			if place > 0 {
				one := slices.Delete(downFrom(first, replaySpan), place, place+1)
				checkTaken(t, one, first-place, downFrom(first, replaySpan))
			}
		}
	}
}

// Each list of up to five numbers, within one span and beyond it, is taken.
func TestEachSmallListIsTaken(t *testing.T) {
	var try func(list []int)
	try = func(list []int) {
		checkTakeAllLike(t, list)
		if len(list) < 5 {
			for _, n := range []int{0, 1, 2, 6, 7, 8, 13} {
				try(append(slices.Clone(list), n))
			}
		}
	}
	try(nil)
}

// Each order of seven numbers, one more than a span, is taken.
func TestEachOrderOfSevenIsTaken(t *testing.T) {
	var try func(list, left []int)
	try = func(list, left []int) {
		if len(left) == 0 {
			checkTakeAll(t, list, takeAllLike(list))
			checkTakeAll(t, slices.Concat(list, list), takeAllLike(list))
		}
		for place, n := range left {
			try(append(slices.Clone(list), n), slices.Delete(slices.Clone(left), place, place+1))
		}
	}
	try(nil, upFrom(1, replaySpan+1))
}

func TestLongListsAreTaken(t *testing.T) {
	const size = 100000
	up, down := upFrom(1, size), downFrom(mostNum, size)
	checkTakeAll(t, up, up)
	checkTakeAll(t, slices.Concat(up, up), up)
	checkTakeAll(t, upFrom(mostNum-size+1, size+9), upFrom(mostNum-size+1, size))
	checkTakeAll(t, down, down[:replaySpan])
	checkTakeAll(t, slices.Repeat([]int{7}, size), []int{7})
	checkTakeAll(t, slices.Repeat([]int{7, 1, 8, 2}, size/4), []int{7, 8})
}

// What stays behind by less than a span is taken in its place; by a whole one
// it is not.
func TestLateNumbersAreTaken(t *testing.T) {
	for late := 1; late <= 2*replaySpan; late++ {
		list := upFrom(20, 40)
		list = slices.Insert(slices.Delete(list, 10, 11), 10+late, 30)
		want := slices.Clone(list)
		if late >= replaySpan {
			want = slices.DeleteFunc(want, func(n int) bool { return n == 30 })
		}
		checkTakeAll(t, list, want)
		checkTakeAllLike(t, append(list, list...))
	}
}

// A net that loses, doubles and turns: no number that it brings is taken twice.
func TestNoNumberOfADrawnNetIsTakenTwice(t *testing.T) {
	draw := rand.New(rand.NewSource(231))
	taken, left := 0, 0
	for range 4000 {
		begin := []int{0, 0, draw.Intn(50), mostNum - draw.Intn(40)}[draw.Intn(4)]
		var list []int
		for range draw.Intn(60) {
			n := begin - draw.Intn(9)
			switch draw.Intn(8) {
			case 0, 1, 2:
				begin++
				n = begin
			case 3:
				begin += draw.Intn(12)
				n = begin
			case 4:
				if len(list) > 0 {
					n = list[draw.Intn(len(list))]
				}
			case 5:
				if draw.Intn(10) == 0 {
					n = numsOutside()[draw.Intn(len(numsOutside()))]
				}
			}
			list = append(list, n)
		}
		checkTakeAllLike(t, list)
		got := impl.TakeAll(list)
		taken += len(got)
		left += len(list) - len(got)
		checkTakeAll(t, slices.Concat(list, got), got)
		checkTakeAll(t, list[:len(list)/2], takeAllLike(list)[:len(takeAllLike(list[:len(list)/2]))])
	}
	if taken < 20000 || left < 20000 {
		t.Errorf("%d numbers are taken, %d are not", taken, left)
	}
}

func TestDrawnNotes(t *testing.T) {
	draw := rand.New(rand.NewSource(232))
	fresh := 0
	for range 1000 {
		seen := []int(nil)
		for step := range 40 {
			n := near(draw, 1, 30+step)
			if draw.Intn(2) == 0 && len(seen) > 0 {
				n = near(draw, seen[0]-replaySpan, seen[0]+replaySpan)
			}
			if freshLike(seen, n) {
				fresh++
			}
			checkNoteLike(t, seen, n)
			seen = impl.NoteSeen(seen, n)
			if !impl.SeenOk(seen) {
				t.Fatalf("%v is not right", seen)
			}
		}
	}
	if fresh < 4000 {
		t.Errorf("only %d are fresh", fresh)
	}
}

func TestTwoAnswersOfNumbersSeenShareNothing(t *testing.T) {
	for _, seen := range append(rightSeen(), wrongSeen()...) {
		var lists []memory
		for range 2 {
			for _, n := range []int{0, 1, 3, 5, 7, 8, 13, 1001, mostNum, mostNum + 1} {
				lists = append(lists, memoryOf(impl.NoteSeen(seen, n), false, "NoteSeen"))
			}
			lists = append(lists, memoryOf(impl.TakeAll(seen), false, "TakeAll"))
		}
		lists = append(lists, memoryOf(seen, true, "seen"))
		checkDisjoint(t, "numbers seen", lists, false)
	}
}

func TestRefusedNumbersLeaveNothingBehind(t *testing.T) {
	for range 3 {
		checkNotTaken(t, []int{9, 8, 6}, 3)
		checkNotTaken(t, []int{9, 8, 6}, 8)
		checkNotTaken(t, []int{9, 8, 6}, mostNum+1)
		checkNotTaken(t, []int{6, 8, 9}, 10)
		checkTakeAll(t, []int{0, -1, mostNum + 1}, nil)
		checkTakeAll(t, []int{9, 3, 9}, []int{9})
		checkTaken(t, nil, 3, []int{3})
		checkTaken(t, []int{9, 8, 6}, 7, []int{9, 8, 7, 6})
		checkTakeAll(t, []int{3, 9}, []int{3, 9})
	}
}

func TestManyTakeAtOnce(t *testing.T) {
	seen, list := []int{9, 8, 6}, []int{1, 2, 1, 9, 3, 4}
	var all sync.WaitGroup
	for range 16 {
		all.Go(func() {
			for range 200 {
				noted, taken := impl.NoteSeen(seen, 11), impl.TakeAll(list)
				if !slices.Equal(noted, []int{11, 9, 8, 6}) || !slices.Equal(taken, []int{1, 2, 9, 4}) || !impl.IsFresh(seen, 7) || impl.IsFresh(seen, 8) {
					t.Errorf("NoteSeen(%v, 11) = %v, TakeAll(%v) = %v", seen, noted, list, taken)
					return
				}
			}
		})
	}
	all.Wait()
}
