package tests

import (
	"math"
	"math/rand"
	"slices"
	"testing"

	"loop.example/g00193/impl"
)

const (
	replaySpan = 6
	spareSeen  = 77
)

// seenRightLike holds each number against all that are ahead of it.
func seenRightLike(seen []int) bool {
	if len(seen) > replaySpan {
		return false
	}
	for place, n := range seen {
		if n < 1 || n > mostNum {
			return false
		}
		if slices.ContainsFunc(seen[:place], func(ahead int) bool { return ahead <= n || ahead-n >= replaySpan }) {
			return false
		}
	}
	return true
}

func checkSeen(t *testing.T, seen []int, want bool) {
	t.Helper()
	lent, room := inRoom(seen, spareSeen)
	were := slices.Clone(room)
	if got := impl.SeenOk(lent); got != want {
		t.Errorf("SeenOk(%v) = %v; want %v", seen, got, want)
	}
	if !slices.Equal(room, were) {
		t.Errorf("SeenOk wrote into its argument: %v; want %v", room, were)
	}
}

// downFrom are so many numbers, each one less than the one ahead of it.
func downFrom(first, size int) []int {
	var list []int
	for by := range size {
		list = append(list, first-by)
	}
	return list
}

func rightSeen() [][]int {
	return [][]int{
		nil,
		{},
		{1},
		{2},
		{2, 1},
		{6, 1},
		{6, 5, 4, 3, 2, 1},
		{7, 6, 5, 4, 3, 2},
		{7, 2},
		{12, 7},
		{12, 10, 7},
		{12, 11, 7},
		{12, 8, 7},
		{mostNum},
		{mostNum, mostNum - 1},
		{mostNum, mostNum - 5},
		downFrom(mostNum, replaySpan),
		downFrom(mostNum-1, replaySpan),
		downFrom(1000, replaySpan),
		downFrom(1000, replaySpan-1),
	}
}

func wrongSeen() [][]int {
	return [][]int{
		{0},
		{-1},
		{mostNum + 1},
		{mostNum + 1, mostNum},
		{math.MinInt},
		{math.MinInt + 5},
		{math.MaxInt},
		{math.MaxInt, math.MinInt},
		{math.MinInt, math.MaxInt},
		{math.MaxInt, 1},
		{1, math.MinInt},
		{1, 0},
		{1, -1},
		{1, 0, -1},
		{5, 0},
		{5, 4, 3, 2, 1, 0},
		{5, 5},
		{1, 1},
		{1, 2},
		{5, 4, 4},
		{5, 4, 4, 3},
		{5, 3, 4},
		{5, 4, 6},
		{1, 2, 3, 4, 5, 6},
		{7, 1},
		{7, 6, 1},
		{12, 6},
		{12, 11, 10, 9, 8, 6},
		{mostNum, mostNum - 6},
		{mostNum, 1},
		{1<<32 + 1, 1},
		downFrom(7, replaySpan+1),
		downFrom(1000, replaySpan+1),
		downFrom(mostNum, replaySpan+1),
		downFrom(mostNum+1, replaySpan),
		slices.Repeat([]int{5}, replaySpan),
		slices.Repeat([]int{5}, replaySpan+1),
	}
}

func TestConstantsOfNumbersSeen(t *testing.T) {
	if impl.ReplaySpan != replaySpan {
		t.Errorf("ReplaySpan is %d; want 6", impl.ReplaySpan)
	}
}

func TestNumbersSeen(t *testing.T) {
	for _, seen := range rightSeen() {
		checkSeen(t, seen, true)
	}
	for _, seen := range wrongSeen() {
		checkSeen(t, seen, false)
	}
}

func TestHowManyNumbersAreSeen(t *testing.T) {
	for size := range 40 {
		checkSeen(t, downFrom(1000, size), size <= replaySpan)
	}
	checkSeen(t, downFrom(mostNum, 100000), false)
}

func TestTwoNumbersSeen(t *testing.T) {
	for first := -2; first <= 20; first++ {
		for second := -2; second <= 20; second++ {
			checkSeen(t, []int{first, second}, second > 0 && first > second && first-second < replaySpan)
		}
	}
	for by := range 20 {
		checkSeen(t, []int{mostNum, mostNum - by}, by > 0 && by < replaySpan)
	}
}

func TestNumbersSeenOutside(t *testing.T) {
	for _, wrong := range append(numsOutside(), 0) {
		checkSeen(t, []int{wrong}, false)
		for place := range replaySpan {
			seen := downFrom(9, replaySpan)
			seen[place] = wrong
			checkSeen(t, seen, false)
		}
	}
}

// Each list of up to four numbers from 0 to 8 is asked.
func TestEachSmallListOfNumbersSeen(t *testing.T) {
	right := 0
	var try func(seen []int)
	try = func(seen []int) {
		want := seenRightLike(seen)
		checkSeen(t, seen, want)
		if want {
			right++
		}
		if len(seen) < 4 {
			for n := range 9 {
				try(append(slices.Clone(seen), n))
			}
		}
	}
	try(nil)
	if right < 50 {
		t.Errorf("only %d lists are right", right)
	}
}

// Each choice of numbers from 1 to 10, told downwards, is asked.
func TestEachChoiceOfNumbersSeen(t *testing.T) {
	for bits := range 1 << 10 {
		var seen []int
		for n := 10; n > 0; n-- {
			if bits>>(n-1)&1 == 1 {
				seen = append(seen, n)
			}
		}
		checkSeen(t, seen, len(seen) == 0 || seen[0]-seen[len(seen)-1] < replaySpan)
	}
}

func TestDrawnNumbersSeen(t *testing.T) {
	draw := rand.New(rand.NewSource(230))
	right := 0
	for range 20000 {
		var seen []int
		n := []int{1 + draw.Intn(15), near(draw, mostNum-3, mostNum)}[draw.Intn(2)]
		for range draw.Intn(replaySpan + 2) {
			seen = append(seen, n)
			n -= []int{1, 1, 1, 1, 1, 2, 2, 3, 0, -1}[draw.Intn(10)]
		}
		want := seenRightLike(seen)
		checkSeen(t, seen, want)
		if want {
			right++
		}
	}
	if right < 2000 || right > 18000 {
		t.Errorf("%d of the drawn lists are right", right)
	}
}
