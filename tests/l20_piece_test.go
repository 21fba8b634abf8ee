package tests

import (
	"math"
	"math/rand"
	"slices"
	"strings"
	"sync"
	"testing"

	"loop.example/g00193/impl"
)

const (
	maxHeld   = 3
	holdTime  = 8
	maxLong   = 300
	mostId    = 255
	leastPart = 20
	mostParts = 15
	lastHold  = 999999992
)

// pieceOf is the text of a part, whatever of its head fits a byte.
func pieceOf(id, place, count int, part string) string {
	return string([]byte{byte(id), byte(place), byte(count)}) + part
}

// heldOf is one of which just the parts that are told came.
func heldOf(from, id, count, until int, came map[int]string) impl.Held {
	one := impl.Held{From: from, Id: id, Count: count, Until: until}
	for place := range max(0, count) {
		part, there := came[place]
		one.Parts, one.Have = append(one.Parts, part), append(one.Have, there)
	}
	return one
}

// firstOf is one of which nothing came but its first part.
func firstOf(from, id, count, until int, part string) impl.Held {
	return heldOf(from, id, count, until, map[int]string{0: part})
}

func shelfOf(list ...impl.Held) impl.Shelf {
	return impl.Shelf{List: list}
}

func sameHeld(a, b impl.Held) bool {
	return a.From == b.From && a.Id == b.Id && a.Count == b.Count && slices.Equal(a.Parts, b.Parts) && slices.Equal(a.Have, b.Have) && a.Until == b.Until
}

func sameShelf(a, b impl.Shelf) bool {
	return slices.EqualFunc(a.List, b.List, sameHeld)
}

func cloneHeld(one impl.Held) impl.Held {
	one.Parts, one.Have = slices.Clone(one.Parts), slices.Clone(one.Have)
	return one
}

func cloneShelf(h impl.Shelf) impl.Shelf {
	var list []impl.Held
	for _, one := range h.List {
		list = append(list, cloneHeld(one))
	}
	return shelfOf(list...)
}

func changedHeld(one impl.Held, change func(*impl.Held)) impl.Held {
	next := cloneHeld(one)
	change(&next)
	return next
}

// fullShelf has no room for one more.
func fullShelf() impl.Shelf {
	return shelfOf(
		heldOf(1, 7, 3, 10, map[int]string{0: "a0", 2: "a2"}),
		heldOf(1, 8, 2, 11, map[int]string{1: "b1"}),
		heldOf(2, 7, 4, 12, map[int]string{0: "c0", 1: "", 3: "c3"}),
	)
}

// splitLike counts the parts first.
func splitLike(id int, s string, size int) ([]string, bool) {
	if id < 0 || id > mostId || size < leastPart || size > maxBody || len(s) > maxLong {
		return nil, false
	}
	count := max(1, (len(s)+size-1)/size)
	if count > mostParts {
		return nil, false
	}
	var texts []string
	for place := range count {
		texts = append(texts, pieceOf(id, place, count, s[place*size:min(len(s), place*size+size)]))
	}
	return texts, true
}

func readPartLike(t string) (int, int, int, string, bool) {
	if len(t) < 3 || t[2] < 1 || t[2] > mostParts || t[1] > t[2]-1 {
		return 0, 0, 0, "", false
	}
	return int(t[0]), int(t[1]), int(t[2]), t[3:], true
}

func heldRightLike(one impl.Held) bool {
	rows := [][3]int{{one.From, 1, 99}, {one.Id, 0, mostId}, {one.Count, 2, mostParts}, {one.Until, 0, mostNum}}
	rows = append(rows, [3]int{len(one.Parts), one.Count, one.Count}, [3]int{len(one.Have), one.Count, one.Count})
	had := 0
	for _, there := range one.Have {
		if there {
			had++
		}
	}
	rows = append(rows, [3]int{had, 1, one.Count - 1})
	for place, part := range one.Parts {
		most := 0
		if place < len(one.Have) && one.Have[place] {
			most = maxBody
		}
		rows = append(rows, [3]int{len(part), 0, most})
	}
	return !slices.ContainsFunc(rows, func(row [3]int) bool { return row[0] < row[1] || row[0] > row[2] })
}

func shelfRightLike(h impl.Shelf) bool {
	whose := map[[2]int]int{}
	for _, one := range h.List {
		whose[[2]int{one.From, one.Id}]++
	}
	wrong := slices.ContainsFunc(h.List, func(one impl.Held) bool { return !heldRightLike(one) })
	return len(h.List) <= maxHeld && len(whose) == len(h.List) && !wrong
}

// addPartLike takes the one that the part is for out of the shelf first, and
// puts it back where it then belongs, unless it is whole.
func addPartLike(h impl.Shelf, from int, t string, now int) (impl.Shelf, string, bool) {
	id, place, count, part, ok := readPartLike(t)
	if !ok || !shelfRightLike(h) || from < 1 || from > 99 || len(part) > maxBody || now < 0 || now > lastHold {
		return h, "", false
	}
	if count == 1 {
		return h, part, true
	}
	isIt := func(one impl.Held) bool { return one.From == from && one.Id == id }
	at := slices.IndexFunc(h.List, isIt)
	rest := slices.DeleteFunc(cloneShelf(h).List, isIt)
	var it impl.Held
	if at >= 0 && h.List[at].Count == count {
		it = cloneHeld(h.List[at])
	} else {
		rest = rest[max(0, len(rest)-maxHeld+1):]
		at, it = len(rest), heldOf(from, id, count, now+holdTime, nil)
	}
	if !it.Have[place] {
		it.Have[place], it.Parts[place] = true, part
	}
	if !slices.Contains(it.Have, false) {
		return shelfOf(rest...), strings.Join(it.Parts, ""), true
	}
	return shelfOf(slices.Insert(rest, at, it)...), "", false
}

func tidyShelfLike(h impl.Shelf, now int) impl.Shelf {
	return shelfOf(slices.DeleteFunc(cloneShelf(h).List, func(one impl.Held) bool { return one.Until <= now })...)
}

var spareHeld = impl.Held{From: 77, Id: 77, Count: 77, Until: 77}

// wholeShelf has all that is in the rooms of the lists, too.
func wholeShelf(h impl.Shelf) impl.Shelf {
	list := slices.Clone(h.List[:cap(h.List)])
	for place := range list {
		one := &list[place]
		one.Parts, one.Have = one.Parts[:cap(one.Parts)], one.Have[:cap(one.Have)]
	}
	return shelfOf(list...)
}

// lentShelf is a shelf whose lists lie in greater rooms, and how both were.
type lentShelf struct {
	h     impl.Shelf
	were  impl.Shelf
	whole impl.Shelf
}

func lendShelf(h impl.Shelf) lentShelf {
	list, _ := inRoom(h.List, spareHeld)
	for place := range list {
		one := &list[place]
		one.Parts, _ = inRoom(one.Parts, spareText)
		one.Have, _ = inRoom(one.Have, true)
		for number, part := range one.Parts {
			one.Parts[number] = inLongerText(part)
		}
	}
	lent := shelfOf(list...)
	return lentShelf{h: lent, were: cloneShelf(lent), whole: cloneShelf(wholeShelf(lent))}
}

func (lent lentShelf) checkUntouched(t *testing.T, what string) {
	t.Helper()
	if !sameShelf(lent.h, lent.were) || !sameShelf(wholeShelf(lent.h), lent.whole) {
		t.Errorf("%s wrote into its argument: %#v; want %#v", what, wholeShelf(lent.h), lent.whole)
	}
}

func listsOfShelf(h impl.Shelf, given bool) []memory {
	lists := []memory{memoryOf(h.List, given, "List")}
	for _, one := range wholeShelf(h).List {
		lists = append(lists, memoryOf(one.Parts, given, "Parts"), memoryOf(one.Have, given, "Have"))
	}
	return lists
}

func textsOfShelf(h impl.Shelf) []string {
	var texts []string
	for _, one := range h.List {
		texts = append(texts, one.Parts...)
	}
	return texts
}

// fillShelf writes into the whole of each list.
func fillShelf(h impl.Shelf) {
	for _, one := range wholeShelf(h).List {
		filled(one.Parts, "written")
		filled(one.Have, true)
	}
	filled(h.List, spareHeld)
}

// checkAnswer looks at what every answer must be, whatever the chapter says,
// and writes into the whole of it.
func (lent lentShelf) checkAnswer(t *testing.T, what string, got impl.Shelf, text, given string) {
	t.Helper()
	checkDisjoint(t, what, append(listsOfShelf(lent.h, true), listsOfShelf(got, false)...), false)
	checkOwnTexts(t, what, append(textsOfShelf(lent.h), given), append(textsOfShelf(got), text)...)
	if impl.ShelfOk(lent.h) && !impl.ShelfOk(got) {
		t.Errorf("%s: %#v was right; what came of it, %#v, is not", what, lent.h, got)
	}
	fillShelf(got)
	lent.checkUntouched(t, what)
}

// checkSplit asks twice: what was written into the first answer must not be
// seen in the second one.
func checkSplit(t *testing.T, id int, s string, size int, want []string, right bool) {
	t.Helper()
	lent := inLongerText(s)
	for range 2 {
		got, ok := impl.Split(id, lent, size)
		if !slices.Equal(got, want) || ok != right {
			t.Errorf("Split(%d, %.400q, %d) = %.400q, %v; want %.400q, %v", id, s, size, got, ok, want, right)
		}
		checkOwnTexts(t, "Split", []string{lent}, got...)
		filled(got, "written")
	}
}

func checkSplitLike(t *testing.T, id int, s string, size int) []string {
	t.Helper()
	want, right := splitLike(id, s, size)
	checkSplit(t, id, s, size, want, right)
	return want
}

func checkNoSplit(t *testing.T, id int, s string, size int) {
	t.Helper()
	checkSplit(t, id, s, size, nil, false)
}

func checkReadPart(t *testing.T, text string, id, place, count int, part string, right bool) {
	t.Helper()
	lent := inLongerText(text)
	gotId, gotPlace, gotCount, gotPart, ok := impl.ReadPart(lent)
	if gotId != id || gotPlace != place || gotCount != count || gotPart != part || ok != right {
		t.Errorf("ReadPart(%.200q) = %d, %d, %d, %.200q, %v; want %d, %d, %d, %.200q, %v", text, gotId, gotPlace, gotCount, gotPart, ok, id, place, count, part, right)
	}
	checkOwnTexts(t, "ReadPart", []string{lent}, gotPart)
}

func checkReadPartLike(t *testing.T, text string) bool {
	t.Helper()
	id, place, count, part, right := readPartLike(text)
	checkReadPart(t, text, id, place, count, part, right)
	return right
}

func checkNoPart(t *testing.T, text string) {
	t.Helper()
	checkReadPart(t, text, 0, 0, 0, "", false)
}

func checkShelf(t *testing.T, h impl.Shelf, want bool) {
	t.Helper()
	lent := lendShelf(h)
	if got := impl.ShelfOk(lent.h); got != want {
		t.Errorf("ShelfOk(%#v) = %v; want %v", h, got, want)
	}
	lent.checkUntouched(t, "ShelfOk")
}

func checkAddPart(t *testing.T, h impl.Shelf, from int, text string, now int, want impl.Shelf, whole string, right bool) {
	t.Helper()
	lent, given := lendShelf(h), inLongerText(text)
	for range 2 {
		got, said, ok := impl.AddPart(lent.h, from, given, now)
		if !sameShelf(got, want) || said != whole || ok != right {
			t.Errorf("AddPart(%#v, %d, %.200q, %d) = %#v, %.200q, %v; want %#v, %.200q, %v", h, from, text, now, got, said, ok, want, whole, right)
		}
		lent.checkAnswer(t, "AddPart", got, said, given)
	}
}

func checkAddPartLike(t *testing.T, h impl.Shelf, from int, text string, now int) (impl.Shelf, string, bool) {
	t.Helper()
	want, whole, right := addPartLike(h, from, text, now)
	checkAddPart(t, h, from, text, now, want, whole, right)
	return want, whole, right
}

// checkHolds is a part that makes nothing whole.
func checkHolds(t *testing.T, h impl.Shelf, from int, text string, now int, want impl.Shelf) {
	t.Helper()
	checkAddPart(t, h, from, text, now, want, "", false)
}

func checkNotAdded(t *testing.T, h impl.Shelf, from int, text string, now int) {
	t.Helper()
	checkHolds(t, h, from, text, now, h)
}

func checkTidyShelf(t *testing.T, h impl.Shelf, now int, want impl.Shelf) {
	t.Helper()
	lent := lendShelf(h)
	for range 2 {
		got := impl.TidyShelf(lent.h, now)
		if !sameShelf(got, want) {
			t.Errorf("TidyShelf(%#v, %d) = %#v; want %#v", h, now, got, want)
		}
		lent.checkAnswer(t, "TidyShelf", got, "", "")
	}
}

func checkTidyShelfLike(t *testing.T, h impl.Shelf, now int) impl.Shelf {
	t.Helper()
	want := tidyShelfLike(h, now)
	checkTidyShelf(t, h, now, want)
	return want
}

func idsOutside() []int {
	return []int{-1, -2, -255, -256, 256, 257, 511, 512, 65536, 1 << 32, 1<<32 + 7, math.MinInt, math.MinInt + 7, math.MaxInt}
}

func partSizesOutside() []int {
	return []int{19, 18, 1, 0, -1, -20, -120, 121, 122, 300, 301, 1 << 32, 1<<32 + 20, math.MinInt, math.MinInt + 20, math.MaxInt}
}

func holdTimesOutside() []int {
	return []int{-1, -2, -8, -9, -mostNum, lastHold + 1, lastHold + 2, mostNum - 1, mostNum, mostNum + 1, 1 << 32, 1<<32 + 5, math.MinInt, math.MinInt + 8, math.MaxInt - 8, math.MaxInt - 7, math.MaxInt}
}

func TestConstantsOfPieces(t *testing.T) {
	if impl.MaxHeld != maxHeld || impl.HoldTime != holdTime || impl.MaxLong != maxLong {
		t.Errorf("MaxHeld, HoldTime, MaxLong are %d, %d, %d; want 3, 8, 300", impl.MaxHeld, impl.HoldTime, impl.MaxLong)
	}
}

func TestFixedSplits(t *testing.T) {
	twenty := "0123456789ABCDEFGHIJ"
	x := strings.Repeat("x", maxBody)
	rows := []struct {
		id   int
		s    string
		size int
		want []string
	}{
		{0, "", 20, []string{"\x00\x00\x01"}},
		{255, "", 120, []string{"\xff\x00\x01"}},
		{7, "a", 20, []string{"\x07\x00\x01a"}},
		{7, "a", 120, []string{"\x07\x00\x01a"}},
		{10, twenty[:19], 20, []string{"\x0a\x00\x010123456789ABCDEFGHI"}},
		{10, twenty, 20, []string{"\x0a\x00\x010123456789ABCDEFGHIJ"}},
		{10, twenty + "K", 20, []string{"\x0a\x00\x020123456789ABCDEFGHIJ", "\x0a\x01\x02K"}},
		{10, twenty + "K", 21, []string{"\x0a\x00\x010123456789ABCDEFGHIJK"}},
		{10, twenty + "KL", 21, []string{"\x0a\x00\x020123456789ABCDEFGHIJK", "\x0a\x01\x02L"}},
		{255, twenty + twenty, 20, []string{"\xff\x00\x02" + twenty, "\xff\x01\x02" + twenty}},
		{128, twenty + twenty + "\x00", 20, []string{"\x80\x00\x03" + twenty, "\x80\x01\x03" + twenty, "\x80\x02\x03\x00"}},
		{1, x, 120, []string{"\x01\x00\x01" + x}},
		{1, x + "y", 120, []string{"\x01\x00\x02" + x, "\x01\x01\x02y"}},
		{1, x + "\x00\xff", 119, []string{"\x01\x00\x02" + x[1:], "\x01\x01\x02x\x00\xff"}},
		{2, x + x + x[:60], 120, []string{"\x02\x00\x03" + x, "\x02\x01\x03" + x, "\x02\x02\x03" + x[:60]}},
		{3, x + x + x[:60], 60, []string{"\x03\x00\x05" + x[:60], "\x03\x01\x05" + x[:60], "\x03\x02\x05" + x[:60], "\x03\x03\x05" + x[:60], "\x03\x04\x05" + x[:60]}},
	}
	for _, row := range rows {
		checkSplit(t, row.id, row.s, row.size, row.want, true)
		checkSplitLike(t, row.id, row.s, row.size)
	}
}

// The longest text in parts of the least size is just as many as there may be.
func TestFifteenParts(t *testing.T) {
	text := drawnText(250, maxLong)
	var want []string
	for place := range 15 {
		want = append(want, string([]byte{9, byte(place), 15})+text[20*place:20*place+20])
	}
	checkSplit(t, 9, text, 20, want, true)
	last := want[14]
	want[14] = last[:len(last)-1]
	checkSplit(t, 9, text[:299], 20, want, true)
	want[14] = last[:4]
	checkSplit(t, 9, text[:281], 20, want, true)
	checkNoSplit(t, 9, text+"z", 20)
	if got, ok := impl.Split(9, text[:280], 20); len(got) != 14 || !ok {
		t.Errorf("280 bytes are %d parts, %v", len(got), ok)
	}
	if got, ok := impl.Split(9, text, 21); len(got) != 15 || !ok {
		t.Errorf("300 bytes by 21 are %d parts, %v", len(got), ok)
	}
	if got, ok := impl.Split(9, text, 22); len(got) != 14 || !ok {
		t.Errorf("300 bytes by 22 are %d parts, %v", len(got), ok)
	}
}

// What is cut is told by the parts, without the reference.
func checkCut(t *testing.T, id int, s string, size int, parts []string) {
	t.Helper()
	var whole strings.Builder
	for place, text := range parts {
		gotId, gotPlace, count, part, ok := impl.ReadPart(text)
		if !ok || gotId != id || gotPlace != place || count != len(parts) {
			t.Errorf("of %d parts of %d that at %d is read as %d, %d, %d, %v", len(parts), id, place, gotId, gotPlace, count, ok)
		}
		if len(part) > size || place < len(parts)-1 && len(part) < size || place > 0 && part == "" {
			t.Errorf("of %d bytes by %d that at %d has %d", len(s), size, place, len(part))
		}
		whole.WriteString(part)
	}
	if whole.String() != s {
		t.Errorf("%.200q by %d is %.200q again", s, size, whole.String())
	}
}

func TestSplitsOfEveryLengthAndSize(t *testing.T) {
	text := drawnText(251, maxLong+1)
	for size := leastPart; size <= maxBody; size++ {
		for length := range maxLong + 1 {
			id := (size*7 + length) % 256
			parts := checkSplitLike(t, id, text[:length], size)
			checkCut(t, id, text[:length], size, parts)
		}
		checkNoSplit(t, size, text, size)
	}
}

func TestSplitsOfEveryId(t *testing.T) {
	for id := -3; id <= 260; id++ {
		for _, text := range []string{"", "x", drawnText(252, 40), drawnText(252, 41), drawnText(252, maxLong)} {
			parts := checkSplitLike(t, id, text, 20)
			if (parts == nil) != (id < 0 || id > 255) {
				t.Errorf("of id %d there are %d parts", id, len(parts))
			}
		}
	}
}

func TestSplitsThatAreRefused(t *testing.T) {
	texts := []string{"", "x", drawnText(253, 20), drawnText(253, 120), drawnText(253, maxLong)}
	for _, text := range texts {
		for _, id := range idsOutside() {
			for _, size := range []int{20, 21, 60, 119, 120} {
				checkNoSplit(t, id, text, size)
			}
		}
		for _, size := range partSizesOutside() {
			for _, id := range []int{0, 1, 7, 254, 255} {
				checkNoSplit(t, id, text, size)
			}
		}
	}
	for _, length := range []int{301, 302, 320, 400, 512, 300 + 256, 1800, 1801, impl.MaxText, 1 << 16, 1<<16 + 20} {
		for _, size := range []int{20, 21, 60, 119, 120} {
			checkNoSplit(t, 7, strings.Repeat("z", length), size)
		}
	}
	checkNoSplit(t, -1, strings.Repeat("z", 301), 19)
}

func TestFixedReadsOfParts(t *testing.T) {
	x := strings.Repeat("x", maxBody)
	rows := []struct {
		text             string
		id, place, count int
		part             string
	}{
		{"\x00\x00\x01", 0, 0, 1, ""},
		{"\xff\x00\x01", 255, 0, 1, ""},
		{"\x07\x00\x01a", 7, 0, 1, "a"},
		{"\x07\x01\x02abc", 7, 1, 2, "abc"},
		{"\x80\x00\x02\x00\x01", 128, 0, 2, "\x00\x01"},
		{"\x01\x0e\x0f" + x, 1, 14, 15, x},
		{"\x01\x00\x0f" + x + "y", 1, 0, 15, x + "y"},
		{"\x30\x01\x03\xff\xff", 48, 1, 3, "\xff\xff"},
	}
	for _, row := range rows {
		checkReadPart(t, row.text, row.id, row.place, row.count, row.part, true)
	}
	for _, text := range []string{"", "\x07", "\x07\x00", "\x07\x00\x00", "\x07\x01\x01", "\x07\x02\x02a", "\x07\x03\x02a", "\x07\x00\x10", "\x07\x0f\x0f", "\x07\x0f\x10", "\x07\x00\x80", "\x07\x00\xff", "\x07\xff\x0f", "\x07\xff\x01", "\x07\xff\xff", "701a"} {
		checkNoPart(t, text)
	}
}

func TestEveryPlaceAndCount(t *testing.T) {
	for place := range 256 {
		for count := range 256 {
			right := count >= 1 && count <= 15 && place < count
			for _, part := range []string{"", "part"} {
				text := pieceOf(place^count, place, count, part)
				if right {
					checkReadPart(t, text, place^count, place, count, part, true)
				} else {
					checkNoPart(t, text)
				}
			}
		}
	}
}

func TestEveryIdIsRead(t *testing.T) {
	for id := range 256 {
		for _, part := range []string{"", "x", drawnText(254, maxBody), drawnText(254, maxBody+1), drawnText(254, 5000)} {
			checkReadPart(t, pieceOf(id, 3, 5, part), id, 3, 5, part, true)
		}
	}
}

func TestTextsTooShortForAPart(t *testing.T) {
	checkNoPart(t, "")
	for first := range 256 {
		checkNoPart(t, string([]byte{byte(first)}))
		for second := range 256 {
			checkNoPart(t, string([]byte{byte(first), byte(second)}))
		}
	}
}

func TestDrawnTextsOfParts(t *testing.T) {
	draw := rand.New(rand.NewSource(255))
	right := 0
	for range 20000 {
		text := []byte(drawnText(draw.Int63(), draw.Intn(8)))
		for place := range min(len(text), 3) {
			if draw.Intn(4) > 0 {
				text[place] %= 18
			}
		}
		if checkReadPartLike(t, string(text)) {
			right++
		}
	}
	if right < 1000 || right > 19000 {
		t.Errorf("%d of the drawn texts are parts", right)
	}
}

func rightShelves() []impl.Shelf {
	full := fullShelf().List
	long := strings.Repeat("z", maxBody)
	return []impl.Shelf{
		{},
		{List: []impl.Held{}},
		shelfOf(full[0]),
		shelfOf(full[0], full[1]),
		shelfOf(full[1], full[0]),
		shelfOf(full[2], full[0], full[1]),
		fullShelf(),
		shelfOf(firstOf(1, 0, 2, 0, "")),
		shelfOf(firstOf(99, 255, 15, mostNum, long)),
		shelfOf(heldOf(1, 0, 2, mostNum-1, map[int]string{1: long})),
		shelfOf(heldOf(50, 100, 15, 8, map[int]string{14: ""})),
		shelfOf(heldOf(50, 100, 15, 8, map[int]string{0: long, 1: long, 2: long, 3: long, 4: long, 5: long, 6: long, 7: long, 8: long, 9: long, 10: long, 11: long, 12: long, 13: long})),
		shelfOf(firstOf(1, 1, 2, 8, "x"), firstOf(1, 2, 2, 8, "x"), firstOf(2, 1, 2, 8, "x")),
		shelfOf(firstOf(12, 3, 2, 8, "x"), firstOf(1, 23, 2, 8, "x"), firstOf(3, 12, 2, 8, "x")),
		shelfOf(firstOf(1, 0, 2, 7, "x"), firstOf(2, 0, 3, 7, "y"), firstOf(3, 0, 4, 7, "z")),
		shelfOf(firstOf(9, 5, 2, 30, "x"), firstOf(9, 4, 3, 20, "y"), firstOf(9, 3, 4, 10, "z")),
	}
}

// changesOfHeld make a right one wrong, each by one clause.
func changesOfHeld() []func(*impl.Held) {
	changes := []func(*impl.Held){
		func(one *impl.Held) { one.Parts = one.Parts[:len(one.Parts)-1] },
		func(one *impl.Held) { one.Parts = append(one.Parts, "") },
		func(one *impl.Held) { one.Parts = nil },
		func(one *impl.Held) { one.Have = one.Have[:len(one.Have)-1] },
		func(one *impl.Held) { one.Have = append(one.Have, false) },
		func(one *impl.Held) { one.Have = append(one.Have, true) },
		func(one *impl.Held) { one.Have = nil },
		func(one *impl.Held) { one.Parts, one.Have = nil, nil },
		func(one *impl.Held) { one.Count++ },
		func(one *impl.Held) { one.Count-- },
		func(one *impl.Held) { one.Count += 256 },
		func(one *impl.Held) { one.Count += 1 << 32 },
		func(one *impl.Held) { one.Parts, one.Have = one.Parts[:1], one.Have[:1] },
		func(one *impl.Held) { filled(one.Have[:len(one.Have):len(one.Have)], true) },
		func(one *impl.Held) {
			for place := range one.Have {
				one.Parts[place], one.Have[place] = "", false
			}
		},
		func(one *impl.Held) { one.Parts[slices.Index(one.Have, false)] = "x" },
		func(one *impl.Held) { one.Parts[slices.Index(one.Have, false)] = "\x00" },
		func(one *impl.Held) { one.Parts[slices.Index(one.Have, false)] = strings.Repeat("x", maxBody+1) },
		func(one *impl.Held) { one.Parts[slices.Index(one.Have, true)] = strings.Repeat("x", maxBody+1) },
		func(one *impl.Held) { one.Parts[slices.Index(one.Have, true)] = strings.Repeat("x", 256) },
	}
	for _, from := range endsOutside() {
		changes = append(changes, func(one *impl.Held) { one.From = from })
	}
	for _, id := range idsOutside() {
		changes = append(changes, func(one *impl.Held) { one.Id = id })
	}
	for _, until := range numsOutside() {
		changes = append(changes, func(one *impl.Held) { one.Until = until })
	}
	for _, count := range []int{0, 1, 16, 17, 31, 256} {
		changes = append(changes, func(one *impl.Held) {
			wrong := firstOf(one.From, one.Id, count, one.Until, "x")
			one.Count, one.Parts, one.Have = count, wrong.Parts, wrong.Have
		})
	}
	return changes
}

func wrongShelves() []impl.Shelf {
	full := fullShelf().List
	list := []impl.Shelf{
		shelfOf(full[0], full[0]),
		shelfOf(full[0], full[1], full[0]),
		shelfOf(full[1], full[0], full[0]),
		shelfOf(full[0], full[0], full[0]),
		shelfOf(full[0], full[1], full[2], firstOf(3, 3, 2, 9, "x")),
		shelfOf(full[0], full[1], full[2], full[0]),
		shelfOf(full[0], full[1], full[2], firstOf(3, 3, 2, 9, "x"), firstOf(4, 3, 2, 9, "x")),
		shelfOf(firstOf(1, 7, 2, 9, "x"), firstOf(1, 7, 3, 9, "x")),
		shelfOf(firstOf(1, 7, 2, 9, "x"), firstOf(1, 7, 2, 10, "x")),
		shelfOf(firstOf(1, 7, 2, 9, "x"), heldOf(1, 7, 2, 9, map[int]string{1: "x"})),
		shelfOf(impl.Held{}),
		shelfOf(impl.Held{}, impl.Held{}, impl.Held{}),
		shelfOf(full[0], impl.Held{}),
		shelfOf(impl.Held{From: 1, Id: 1, Count: 2, Until: 9}),
		shelfOf(impl.Held{From: 1, Id: 1, Count: -1, Until: 9}),
		shelfOf(impl.Held{From: 1, Id: 1, Count: math.MinInt, Until: 9}),
		shelfOf(impl.Held{From: 1, Id: 1, Count: math.MaxInt, Until: 9}),
		shelfOf(impl.Held{From: 1, Id: 1, Count: 2, Parts: []string{"x", ""}, Have: []bool{true}, Until: 9}),
		shelfOf(impl.Held{From: 1, Id: 1, Count: 2, Parts: []string{"x"}, Have: []bool{true, false}, Until: 9}),
		shelfOf(impl.Held{From: 1, Id: 1, Count: 3, Parts: []string{"x", ""}, Have: []bool{true, false}, Until: 9}),
	}
	for place, change := range changesOfHeld() {
		wrong := fullShelf()
		change(&wrong.List[place%maxHeld])
		list = append(list, wrong)
	}
	return list
}

func TestShelvesThatAreRight(t *testing.T) {
	for _, h := range rightShelves() {
		checkShelf(t, h, true)
	}
}

func TestShelvesThatAreNotRight(t *testing.T) {
	for _, h := range wrongShelves() {
		checkShelf(t, h, false)
	}
	for _, right := range rightShelves() {
		for place := range right.List {
			for _, change := range changesOfHeld() {
				h := cloneShelf(right)
				change(&h.List[place])
				if shelfRightLike(h) {
					t.Errorf("%#v is right", h)
				}
				checkShelf(t, h, false)
			}
		}
	}
}

// isUnlike holds when none but the one at place is n.
func isUnlike(list []int, place, n int) bool {
	rest := slices.Delete(slices.Clone(list), place, place+1)
	return !slices.Contains(rest, n)
}

func TestNumbersOfHeldOnes(t *testing.T) {
	numbers := []int{7, 8, 9}
	for place := range numbers {
		for n := -3; n <= 300; n++ {
			froms, ids, untils := impl.Shelf{}, impl.Shelf{}, fullShelf()
			for _, number := range numbers {
				froms.List = append(froms.List, firstOf(number, 5, 2, 5, "x"))
				ids.List = append(ids.List, firstOf(5, number, 2, 5, "x"))
			}
			froms.List[place].From, ids.List[place].Id, untils.List[place].Until = n, n, n
			checkShelf(t, froms, n >= 1 && n <= 99 && isUnlike(numbers, place, n))
			checkShelf(t, ids, n >= 0 && n <= 255 && isUnlike(numbers, place, n))
			checkShelf(t, untils, n >= 0)
			untils.List[place].Until = mostNum - 150 + n
			checkShelf(t, untils, n <= 150)
		}
	}
}

func TestHowManyPartsAreHeld(t *testing.T) {
	for count := -2; count <= 20; count++ {
		for size := range 20 {
			for had := range 20 {
				one := impl.Held{From: 1, Id: 1, Count: count, Parts: make([]string, size), Have: make([]bool, had), Until: 5}
				if had > 0 {
					one.Have[had/2] = true
				}
				checkShelf(t, shelfOf(one), count >= 2 && count <= 15 && size == count && had == count)
			}
		}
	}
}

func TestEachChoiceOfPartsThatAreHeld(t *testing.T) {
	for count := 2; count <= 9; count++ {
		for bits := range 1 << count {
			came := map[int]string{}
			for place := range count {
				if bits>>place&1 == 1 {
					came[place] = strings.Repeat("p", place)
				}
			}
			one := heldOf(4, 4, count, 4, came)
			checkShelf(t, shelfOf(one), bits != 0 && bits != 1<<count-1)
			for place := range count {
				wrong := changedHeld(one, func(one *impl.Held) { one.Parts[place] = "q" })
				checkShelf(t, shelfOf(wrong), bits>>place&1 == 1 && bits != 1<<count-1)
			}
		}
	}
}

func TestLengthsOfPartsThatAreHeld(t *testing.T) {
	for _, count := range []int{2, 3, 15} {
		for place := range count {
			for _, length := range []int{0, 1, 2, 19, 20, 119, 120, 121, 122, 123, 240, 255, 256, 300, 1800} {
				text := strings.Repeat("l", length)
				has := heldOf(1, 1, count, 5, map[int]string{place: text})
				checkShelf(t, shelfOf(has), length <= 120)
				hasNot := firstOf(1, 1, count, 5, "x")
				hasNot.Have[0], hasNot.Parts[0] = place != 0, ""
				hasNot.Have[count-1] = place == 0
				hasNot.Have[place], hasNot.Parts[place] = false, text
				checkShelf(t, shelfOf(hasNot), length == 0)
			}
		}
	}
}

func TestHowManyAreHeld(t *testing.T) {
	for size := range 12 {
		var list []impl.Held
		for place := range size {
			list = append(list, firstOf(1+place, 9, 2, 5, "x"))
		}
		checkShelf(t, shelfOf(list...), size <= 3)
		for place := range size {
			for other := range place {
				twice := cloneShelf(shelfOf(list...))
				twice.List[place].From = twice.List[other].From
				checkShelf(t, twice, false)
				twice.List[place].Id++
				checkShelf(t, twice, size <= 3)
			}
		}
	}
}

func TestAGreatShelfIsNotRight(t *testing.T) {
	great := firstOf(1, 1, 100000, 5, "x")
	for _, h := range []impl.Shelf{
		shelfOf(great),
		shelfOf(changedHeld(great, func(one *impl.Held) { one.Count = 2 })),
		shelfOf(changedHeld(great, func(one *impl.Held) { one.Parts = one.Parts[:2]; one.Count = 2 })),
		shelfOf(changedHeld(great, func(one *impl.Held) { one.Have = one.Have[:2]; one.Count = 2 })),
		shelfOf(slices.Repeat([]impl.Held{firstOf(1, 1, 2, 5, "x")}, 20000)...),
	} {
		got, text, ok := impl.AddPart(h, 1, pieceOf(1, 1, 2, "y"), 0)
		if impl.ShelfOk(h) || ok || text != "" || !sameShelf(got, h) || !sameShelf(impl.TidyShelf(h, 4), h) || len(impl.TidyShelf(h, 5).List) > 0 {
			t.Errorf("a shelf of %d, of %d Parts, is right, or changed", len(h.List), len(h.List[0].Parts))
		}
	}
}

func TestFixedAdds(t *testing.T) {
	none := impl.Shelf{}
	x := shelfOf(firstOf(1, 7, 2, 8, "x"))
	checkHolds(t, none, 1, "\x07\x00\x02x", 0, x)
	checkAddPart(t, x, 1, "\x07\x01\x02y", 3, none, "xy", true)
	y := shelfOf(heldOf(1, 7, 2, 8, map[int]string{1: "y"}))
	checkHolds(t, none, 1, "\x07\x01\x02y", 0, y)
	checkAddPart(t, y, 1, "\x07\x00\x02x", 100, none, "xy", true)
	checkAddPart(t, y, 1, "\x07\x00\x02", 0, none, "y", true)
	checkAddPart(t, none, 1, "\x07\x00\x01x", 0, none, "x", true)
	checkAddPart(t, none, 1, "\x07\x00\x01", 0, none, "", true)
	checkHolds(t, none, 99, "\xff\x0e\x0f", 5, shelfOf(heldOf(99, 255, 15, 13, map[int]string{14: ""})))
	checkNotAdded(t, x, 1, "\x07\x00\x02x", 1)
	checkNotAdded(t, x, 1, "\x07\x00\x02z", 1)
	checkHolds(t, x, 1, "\x08\x01\x02y", 1, shelfOf(x.List[0], heldOf(1, 8, 2, 9, map[int]string{1: "y"})))
	checkHolds(t, x, 2, "\x07\x01\x02y", 1, shelfOf(x.List[0], heldOf(2, 7, 2, 9, map[int]string{1: "y"})))
	checkHolds(t, x, 1, "\x07\x01\x03y", 1, shelfOf(heldOf(1, 7, 3, 9, map[int]string{1: "y"})))
	checkAddPart(t, x, 1, "\x07\x00\x01y", 1, x, "y", true)

	full := fullShelf()
	a, b, c := full.List[0], full.List[1], full.List[2]
	checkAddPart(t, full, 1, "\x07\x01\x03a1", 2, shelfOf(b, c), "a0a1a2", true)
	checkAddPart(t, full, 1, "\x08\x00\x02b0", 2, shelfOf(a, c), "b0b1", true)
	checkAddPart(t, full, 2, "\x07\x02\x04c2", 2, shelfOf(a, b), "c0c2c3", true)
	checkHolds(t, full, 2, "\x08\x01\x02d", 2, shelfOf(b, c, heldOf(2, 8, 2, 10, map[int]string{1: "d"})))
	checkHolds(t, full, 1, "\x07\x01\x02d", 2, shelfOf(b, c, heldOf(1, 7, 2, 10, map[int]string{1: "d"})))
	checkHolds(t, full, 1, "\x08\x01\x03d", 2, shelfOf(a, c, heldOf(1, 8, 3, 10, map[int]string{1: "d"})))
	checkHolds(t, full, 2, "\x07\x01\x05d", 2, shelfOf(a, b, heldOf(2, 7, 5, 10, map[int]string{1: "d"})))
	checkAddPart(t, full, 2, "\x07\x00\x01d", 2, full, "d", true)
	checkNotAdded(t, full, 1, "\x07\x02\x03other", 2)
	checkNotAdded(t, full, 2, "\x07\x01\x04other", 2)
	checkNotAdded(t, full, 1, "\x07\x03\x03x", 2)
	checkNotAdded(t, full, 1, "\x07\x01\x00x", 2)
	checkNotAdded(t, full, 1, "\x07\x01", 2)
}

// brought are the shelf and the text that comes of parts one behind another;
// none but the last one may make a text whole.
func brought(t *testing.T, from int, parts []string) (impl.Shelf, string, bool) {
	t.Helper()
	h := impl.Shelf{}
	for place, part := range parts {
		next, whole, ok := checkAddPartLike(t, h, from, part, place)
		if place == len(parts)-1 {
			return next, whole, ok
		}
		if ok || len(next.List) != 1 || next.List[0].Until != holdTime {
			t.Errorf("at %d of %d parts %#v, %.40q, %v came", place, len(parts), next, whole, ok)
		}
		h = next
	}
	return h, "", false
}

func checkJoined(t *testing.T, s string, parts []string) {
	t.Helper()
	if h, whole, ok := brought(t, 5, parts); !ok || whole != s || len(h.List) != 0 {
		t.Errorf("of %.100q in %d parts %.100q, %v came, and %#v", s, len(parts), whole, ok, h)
	}
}

// Promise 20: in order, the other way round, shuffled, each but the last one
// twice, and the last one missing.
func TestPiecesAreJoined(t *testing.T) {
	draw := rand.New(rand.NewSource(256))
	for _, size := range []int{20, 21, 37, 60, 119, 120} {
		for length := range maxLong + 1 {
			s := drawnText(draw.Int63(), length)
			parts, ok := impl.Split(draw.Intn(256), s, size)
			if !ok {
				t.Fatalf("%d bytes by %d are not split", length, size)
			}
			backwards := slices.Clone(parts)
			slices.Reverse(backwards)
			shuffled := slices.Clone(parts)
			draw.Shuffle(len(shuffled), func(a, b int) { shuffled[a], shuffled[b] = shuffled[b], shuffled[a] })
			last := len(parts) - 1
			for _, order := range [][]string{parts, backwards, shuffled} {
				checkJoined(t, s, order)
				checkJoined(t, s, slices.Concat(order[:last], order[:last], order[last:]))
				if _, whole, ok := brought(t, 5, order[:last]); ok || whole != "" {
					t.Errorf("of %d parts without the last %.40q, %v came", len(parts), whole, ok)
				}
			}
		}
	}
}

// What comes once more when it is whole begins anew, since it is gone.
func TestPartsToldTwice(t *testing.T) {
	text := drawnText(266, 50)
	parts, _ := impl.Split(6, text, 20)
	h, wholes := impl.Shelf{}, 0
	for place, part := range slices.Concat(parts, parts, parts) {
		next, whole, ok := checkAddPartLike(t, h, 4, part, 9)
		if ok != (place%3 == 2) || ok && whole != text {
			t.Errorf("at %d %.60q, %v came", place, whole, ok)
		}
		if ok {
			wholes++
		}
		h = next
	}
	if wholes != 3 || len(h.List) > 0 {
		t.Errorf("it came %d times, and %#v is left", wholes, h)
	}
	for _, part := range parts {
		h, _, _ = checkAddPartLike(t, h, 4, part, 9)
		h, _, _ = checkAddPartLike(t, h, 4, part, 10)
	}
	if want := shelfOf(heldOf(4, 6, 3, 18, map[int]string{2: text[40:]})); !sameShelf(h, want) {
		t.Errorf("%#v is left; want %#v", h, want)
	}
}

func TestEachOrderOfParts(t *testing.T) {
	for count := 2; count <= 6; count++ {
		s := drawnText(int64(count), 20*count-3)
		parts, _ := impl.Split(200, s, 20)
		eachOrder(count, nil, func(order []int) {
			var came []string
			for _, num := range order {
				came = append(came, parts[num-1])
			}
			checkJoined(t, s, came)
			checkJoined(t, s, slices.Concat(came[:1], came[:count-1], came))
		})
	}
}

// Each part but one came: it is whole by that one alone, whatever comes else.
func TestOnePartTooFew(t *testing.T) {
	for count := 2; count <= mostParts; count++ {
		for missing := range count {
			came, whole := map[int]string{}, ""
			for place := range count {
				came[place] = "p" + impl.Decimal(place)
				whole += came[place]
			}
			delete(came, missing)
			h := shelfOf(heldOf(3, 9, count, 50, came))
			checkShelf(t, h, true)
			for place := range count {
				text := pieceOf(9, place, count, "p"+impl.Decimal(place))
				if place == missing {
					checkAddPart(t, h, 3, text, 0, impl.Shelf{}, whole, true)
				} else {
					checkNotAdded(t, h, 3, text, 0)
				}
			}
		}
	}
}

// Parts may be of any length up to MaxBody, and more than Split would cut.
func TestPartsThatSplitDoesNotCut(t *testing.T) {
	for _, count := range []int{2, 3, 14, 15} {
		for _, length := range []int{0, 1, 2, 19, 119, 120} {
			whole, h := "", impl.Shelf{}
			for place := range count {
				part := drawnText(int64(place), length)
				whole += part
				next, text, ok := checkAddPartLike(t, h, 1, pieceOf(0, place, count, part), 0)
				if ok != (place == count-1) || ok && text != whole {
					t.Errorf("at %d of %d parts of %d bytes %.40q, %v came", place, count, length, text, ok)
				}
				h = next
			}
		}
	}
	h := impl.Shelf{}
	for place, part := range []string{"", "abc", "", "d", ""} {
		next, text, ok := checkAddPartLike(t, h, 1, pieceOf(0, place, 5, part), 0)
		if ok != (place == 4) || ok && text != "abcd" {
			t.Errorf("at %d %q, %v came", place, text, ok)
		}
		h = next
	}
}

func TestTextsAtTheSameTime(t *testing.T) {
	draw := rand.New(rand.NewSource(257))
	for _, ends := range [][3][2]int{{{1, 7}, {1, 8}, {2, 7}}, {{5, 0}, {5, 1}, {5, 255}}, {{1, 3}, {2, 3}, {99, 3}}, {{12, 3}, {1, 23}, {3, 12}}} {
		for range 60 {
			var way []crossedPart
			texts := [3]string{}
			for place, end := range ends {
				texts[place] = drawnText(draw.Int63(), 21+draw.Intn(280))
				parts, _ := impl.Split(end[1], texts[place], 20)
				for _, part := range parts {
					way = append(way, crossedPart{from: end[0], text: part, said: place})
				}
			}
			draw.Shuffle(len(way), func(a, b int) { way[a], way[b] = way[b], way[a] })
			h, came := impl.Shelf{}, [3]string{}
			for _, c := range way {
				next, whole, ok := checkAddPartLike(t, h, c.from, c.text, 0)
				if ok {
					came[c.said] = whole
				}
				h = next
			}
			if came != texts || len(h.List) > 0 {
				t.Errorf("of %.40q %.40q came, and %#v", texts, came, h)
			}
		}
	}
}

// crossedPart is a part under way, and which text it is of.
type crossedPart struct {
	from int
	text string
	said int
}

// What has another count is another text: what was held of it is gone, and the
// new one is behind the others, wherever the old one stood.
func TestPartsOfAnotherCount(t *testing.T) {
	for place := range maxHeld {
		for count := 1; count <= mostParts; count++ {
			for number := range count {
				h := fullShelf()
				old := h.List[place]
				if count == old.Count {
					continue
				}
				text := pieceOf(old.Id, number, count, "new")
				if count == 1 {
					checkAddPart(t, h, old.From, text, 30, h, "new", true)
					continue
				}
				rest := slices.Delete(fullShelf().List, place, place+1)
				it := heldOf(old.From, old.Id, count, 38, map[int]string{number: "new"})
				checkHolds(t, h, old.From, text, 30, shelfOf(rest[0], rest[1], it))
				checkHolds(t, shelfOf(old), old.From, text, 30, shelfOf(it))
				checkHolds(t, shelfOf(old, rest[0]), old.From, text, 30, shelfOf(rest[0], it))
				checkHolds(t, shelfOf(rest[0], old), old.From, text, 30, shelfOf(rest[0], it))
			}
		}
	}
}

// A text that is told in other parts begins anew, and then comes; what is left
// of the first ones begins anew, too.
func TestATextSplitAnew(t *testing.T) {
	s := drawnText(258, 100)
	byTwenty, _ := impl.Split(4, s, 20)
	byForty, _ := impl.Split(4, s, 40)
	h := impl.Shelf{}
	for _, part := range byTwenty[:4] {
		h, _, _ = checkAddPartLike(t, h, 8, part, 0)
	}
	for _, part := range byForty[:2] {
		h, _, _ = checkAddPartLike(t, h, 8, part, 2)
	}
	if want := shelfOf(heldOf(8, 4, 3, 10, map[int]string{0: s[:40], 1: s[40:80]})); !sameShelf(h, want) {
		t.Fatalf("%#v is held; want %#v", h, want)
	}
	again, whole, ok := checkAddPartLike(t, h, 8, byTwenty[4], 3)
	if ok || whole != "" || !sameShelf(again, shelfOf(heldOf(8, 4, 5, 11, map[int]string{4: s[80:]}))) {
		t.Errorf("the last of five made %#v, %q, %v", again, whole, ok)
	}
	done, whole, ok := checkAddPartLike(t, h, 8, byForty[2], 3)
	if !ok || whole != s || len(done.List) > 0 {
		t.Errorf("the last of three made %#v, %q, %v", done, whole, ok)
	}
}

func TestTheFirstOneGoesForANewOne(t *testing.T) {
	h := impl.Shelf{}
	for number := range 40 {
		from, id := 1+number%99, number*7%256
		h, _, _ = checkAddPartLike(t, h, from, pieceOf(id, 0, 2, "x"), number)
		if len(h.List) != min(number+1, maxHeld) {
			t.Fatalf("behind %d new ones %d are held", number+1, len(h.List))
		}
		for place, one := range h.List {
			if ahead := len(h.List) - 1 - place; one.Until != number-ahead+holdTime {
				t.Errorf("behind %d new ones that at %d is %#v", number+1, place, one)
			}
		}
	}
	full := fullShelf()
	for _, order := range [][3]int{{0, 1, 2}, {0, 2, 1}, {1, 0, 2}, {1, 2, 0}, {2, 0, 1}, {2, 1, 0}} {
		h := shelfOf(full.List[order[0]], full.List[order[1]], full.List[order[2]])
		checkHolds(t, h, 9, pieceOf(9, 1, 3, "new"), 0, shelfOf(h.List[1], h.List[2], heldOf(9, 9, 3, 8, map[int]string{1: "new"})))
		two := shelfOf(h.List[:2]...)
		checkHolds(t, two, 9, pieceOf(9, 1, 3, "new"), 0, shelfOf(h.List[0], h.List[1], heldOf(9, 9, 3, 8, map[int]string{1: "new"})))
	}
}

// Who has a part more does not move, and is not held longer.
func TestWhatIsHeldStaysAtItsPlace(t *testing.T) {
	for place := range maxHeld {
		h := shelfOf(firstOf(1, 7, 5, 10, "a"), firstOf(2, 7, 6, 9, "b"), firstOf(1, 8, 7, 8, "c"))
		one := h.List[place]
		for number := 1; number < one.Count-1; number++ {
			next := cloneShelf(h)
			next.List[place].Have[number], next.List[place].Parts[number] = true, "more"
			checkHolds(t, h, one.From, pieceOf(one.Id, number, one.Count, "more"), 1000*number, next)
			h = next
		}
		rest := slices.Delete(cloneShelf(h).List, place, place+1)
		whole := one.Parts[0] + strings.Repeat("more", one.Count-2) + "!"
		checkAddPart(t, h, one.From, pieceOf(one.Id, one.Count-1, one.Count, "!"), lastHold, shelfOf(rest...), whole, true)
	}
}

func TestAPartThatIsThereStaysAsItWas(t *testing.T) {
	for _, other := range []string{"", "x", "a0", "a0 ", "other", strings.Repeat("o", maxBody)} {
		for _, one := range fullShelf().List {
			for place, there := range one.Have {
				if there {
					checkNotAdded(t, fullShelf(), one.From, pieceOf(one.Id, place, one.Count, other), 20)
				}
			}
		}
	}
	h := shelfOf(firstOf(1, 1, 2, 8, "first"))
	h, _, _ = checkAddPartLike(t, h, 1, pieceOf(1, 0, 2, "second"), 1)
	checkAddPart(t, h, 1, pieceOf(1, 1, 2, "!"), 2, impl.Shelf{}, "first!", true)
	empty := shelfOf(firstOf(1, 1, 2, 8, ""))
	checkNotAdded(t, empty, 1, pieceOf(1, 0, 2, "late"), 1)
	checkAddPart(t, empty, 1, pieceOf(1, 1, 2, "!"), 2, impl.Shelf{}, "!", true)
}

// What is over is still held, as long as nobody tidies.
func TestPartsOfWhatIsOver(t *testing.T) {
	for _, until := range []int{0, 1, 7, 8, 9, mostNum} {
		for _, now := range []int{0, 1, 7, 8, 9, 1000, lastHold} {
			h := shelfOf(firstOf(1, 1, 2, until, "x"), firstOf(1, 2, 3, until, "y"))
			checkAddPart(t, h, 1, pieceOf(1, 1, 2, "!"), now, shelfOf(h.List[1]), "x!", true)
			checkHolds(t, h, 1, pieceOf(2, 1, 3, "!"), now, shelfOf(h.List[0], heldOf(1, 2, 3, until, map[int]string{0: "y", 1: "!"})))
		}
	}
}

func TestPartsThatComeAlone(t *testing.T) {
	shelves := append(rightShelves(), fullShelf())
	for _, h := range shelves {
		for _, end := range [][2]int{{1, 7}, {1, 8}, {2, 7}, {9, 9}, {99, 255}, {1, 0}} {
			for _, length := range []int{0, 1, 2, 20, 119, 120} {
				part := drawnText(259, length)
				for _, now := range []int{0, 5, lastHold} {
					checkAddPart(t, h, end[0], pieceOf(end[1], 0, 1, part), now, h, part, true)
				}
			}
			for _, length := range []int{121, 122, 300, 1800} {
				checkNotAdded(t, h, end[0], pieceOf(end[1], 0, 1, drawnText(259, length)), 5)
			}
		}
	}
	for _, h := range wrongShelves() {
		checkNotAdded(t, h, 1, pieceOf(7, 0, 1, "alone"), 5)
	}
	for _, from := range endsOutside() {
		checkNotAdded(t, fullShelf(), from, pieceOf(7, 0, 1, "alone"), 5)
	}
	for _, now := range holdTimesOutside() {
		checkNotAdded(t, fullShelf(), 1, pieceOf(7, 0, 1, "alone"), now)
	}
}

func TestWhoPartsAreFrom(t *testing.T) {
	for from := -3; from <= 300; from++ {
		for _, h := range []impl.Shelf{{}, fullShelf(), shelfOf(firstOf(99, 5, 2, 9, "x"))} {
			for _, text := range []string{pieceOf(5, 1, 2, "y"), pieceOf(5, 1, 3, "y"), pieceOf(7, 1, 3, "y")} {
				next, _, _ := checkAddPartLike(t, h, from, text, 0)
				if (from < 1 || from > 99) && !sameShelf(next, h) {
					t.Errorf("from %d makes %#v", from, next)
				}
			}
		}
	}
	for _, from := range endsOutside() {
		checkNotAdded(t, impl.Shelf{}, from, pieceOf(5, 1, 2, "y"), 0)
		checkNotAdded(t, fullShelf(), from, pieceOf(7, 1, 3, "y"), 0)
	}
	checkHolds(t, impl.Shelf{}, 1, pieceOf(5, 0, 2, "y"), 0, shelfOf(firstOf(1, 5, 2, 8, "y")))
	checkHolds(t, impl.Shelf{}, 99, pieceOf(5, 0, 2, "y"), 0, shelfOf(firstOf(99, 5, 2, 8, "y")))
}

func TestTimesOfParts(t *testing.T) {
	for _, now := range []int{0, 1, 2, 7, 8, 9, 1000, lastHold - 1, lastHold} {
		checkHolds(t, impl.Shelf{}, 1, pieceOf(5, 0, 2, "y"), now, shelfOf(firstOf(1, 5, 2, now+8, "y")))
		checkAddPart(t, fullShelf(), 1, pieceOf(8, 0, 2, "b0"), now, shelfOf(fullShelf().List[0], fullShelf().List[2]), "b0b1", true)
	}
	for _, now := range holdTimesOutside() {
		checkNotAdded(t, impl.Shelf{}, 1, pieceOf(5, 0, 2, "y"), now)
		checkNotAdded(t, fullShelf(), 1, pieceOf(8, 0, 2, "b0"), now)
		checkNotAdded(t, fullShelf(), 9, pieceOf(8, 0, 2, "b0"), now)
	}
	for now := lastHold - 20; now <= mostNum+20; now++ {
		next, _, _ := checkAddPartLike(t, impl.Shelf{}, 1, pieceOf(5, 0, 2, "y"), now)
		if (len(next.List) == 1) != (now <= lastHold) {
			t.Errorf("at %d %#v is held", now, next)
		}
	}
}

func TestLengthsOfPartsThatCome(t *testing.T) {
	for _, length := range []int{0, 1, 19, 20, 60, 119, 120, 121, 122, 123, 124, 255, 256, 300, 1800, 1 << 16} {
		part := drawnText(260, length)
		for _, h := range []impl.Shelf{{}, fullShelf(), shelfOf(firstOf(1, 8, 2, 9, "x"))} {
			for _, count := range []int{1, 2, 3, 15} {
				next, whole, ok := checkAddPartLike(t, h, 1, pieceOf(8, count-1, count, part), 3)
				if length > maxBody && (ok || whole != "" || !sameShelf(next, h)) {
					t.Errorf("a part of %d bytes makes %#v, %.40q, %v", length, next, whole, ok)
				}
			}
		}
	}
}

func TestTextsThatAreNoPartsAreNotAdded(t *testing.T) {
	for _, h := range append(rightShelves(), wrongShelves()...) {
		for _, text := range []string{"", "\x07", "\x07\x00", "\x07\x00\x00", "\x07\x01\x01", "\x07\x03\x03x", "\x07\x00\x10x", "\x07\x10\x10x", "\x07\xff\x03x", "\x08\x02\x02x", "plain"} {
			checkNotAdded(t, h, 1, text, 5)
		}
	}
	for place := range 32 {
		for count := range 32 {
			text := pieceOf(7, place, count, "x")
			if count < 1 || count > 15 || place >= count {
				checkNotAdded(t, fullShelf(), 1, text, 5)
			} else {
				checkAddPartLike(t, fullShelf(), 1, text, 5)
			}
		}
	}
}

func TestNothingIsAddedToWrongShelves(t *testing.T) {
	for _, h := range wrongShelves() {
		for _, text := range []string{pieceOf(7, 1, 3, "x"), pieceOf(8, 0, 2, "x"), pieceOf(9, 0, 2, "x"), pieceOf(7, 0, 1, "x"), pieceOf(1, 1, 2, "x")} {
			for _, from := range []int{1, 2, 3} {
				checkNotAdded(t, h, from, text, 5)
			}
		}
	}
}

func TestTidyShelvesAroundUntil(t *testing.T) {
	full := fullShelf()
	a, b, c := full.List[0], full.List[1], full.List[2]
	for now, want := range map[int]impl.Shelf{
		math.MinInt: full, -1: full, 0: full, 1: full, 8: full, 9: full,
		10: shelfOf(b, c), 11: shelfOf(c), 12: {}, 13: {}, mostNum: {}, mostNum + 1: {}, math.MaxInt: {},
	} {
		checkTidyShelf(t, full, now, want)
	}
	for _, until := range []int{0, 1, 8, 100, mostNum - 1, mostNum} {
		for by := -2; by <= 2; by++ {
			a.Until, b.Until, c.Until = 50, until, 50
			for _, h := range []impl.Shelf{shelfOf(b), shelfOf(a, b), shelfOf(b, a), shelfOf(a, b, c)} {
				next := checkTidyShelfLike(t, h, until+by)
				stays := slices.ContainsFunc(next.List, func(one impl.Held) bool { return one.Until == until && one.Id == b.Id })
				if stays != (by < 0) {
					t.Errorf("at %d of %#v %#v stays", until+by, h, next)
				}
			}
		}
	}
	checkTidyShelf(t, impl.Shelf{}, 0, impl.Shelf{})
}

// What is held at a time is over HoldTime later, and not ahead of that.
func TestTidyBehindAPart(t *testing.T) {
	for _, now := range []int{0, 1, 5, 1000, lastHold} {
		h, _, _ := checkAddPartLike(t, impl.Shelf{}, 1, pieceOf(5, 0, 3, "x"), now)
		for by := range 12 {
			next := checkTidyShelfLike(t, h, now+by)
			if (len(next.List) == 1) != (by < 8) {
				t.Errorf("%d behind %d %#v is held", by, now, next)
			}
			if now+by <= lastHold {
				later, _, _ := checkAddPartLike(t, next, 1, pieceOf(5, 1, 3, "y"), now+by)
				if by < 8 && later.List[0].Until != now+8 || by >= 8 && (later.List[0].Until != now+by+8 || later.List[0].Have[0]) {
					t.Errorf("%d behind %d %#v is held", by, now, later)
				}
			}
		}
	}
}

// The chapter bars no shelf that is not right: Until alone counts.
func TestTidyOfEachShelf(t *testing.T) {
	for _, h := range append(rightShelves(), wrongShelves()...) {
		for _, now := range append(holdTimesOutside(), 0, 1, 7, 8, 9, 10, 11, 12, mostNum-2) {
			checkTidyShelfLike(t, h, now)
		}
	}
}

func TestTidyOfEachChoice(t *testing.T) {
	for bits := range 1 << 5 {
		var all, left []impl.Held
		for place := range 5 {
			stays := bits >> place & 1
			one := firstOf(1+place, 9, 2+place, 20+stays, "x")
			all = append(all, one)
			if stays == 1 {
				left = append(left, one)
			}
		}
		checkTidyShelf(t, shelfOf(all...), 20, shelfOf(left...))
	}
}

// shelfLife is a shelf, what is on the way to it, and what came of it.
type shelfLife struct {
	h    impl.Shelf
	way  []crossedPart
	said []string
	came []int
	now  int
}

func (life *shelfLife) say(draw *rand.Rand, from, id int) {
	text := impl.Decimal(len(life.said)) + drawnText(draw.Int63(), draw.Intn(290))
	parts, _ := impl.Split(id, text, 20+draw.Intn(101))
	for _, part := range parts {
		life.way = append(life.way, crossedPart{from: from, text: part, said: len(life.said)})
	}
	life.said, life.came = append(life.said, text), append(life.came, 0)
}

func (life *shelfLife) take(t *testing.T, at int) bool {
	c := life.way[at]
	next, whole, ok := checkAddPartLike(t, life.h, c.from, c.text, life.now)
	if ok && whole == life.said[c.said] {
		life.came[c.said]++
	}
	life.h = next
	return ok && whole != life.said[c.said]
}

// No two texts of one From have one id here: nothing but what was said comes.
func TestLivesOfShelves(t *testing.T) {
	draw := rand.New(rand.NewSource(261))
	came, never := 0, 0
	for range 300 {
		life := &shelfLife{}
		for range 120 {
			kind, size := draw.Intn(10), len(life.way)
			switch {
			case kind == 0 || size == 0:
				life.say(draw, 1+len(life.said)%3, len(life.said))
			case kind < 8:
				at := min(draw.Intn(size), draw.Intn(size), draw.Intn(size))
				if life.take(t, at) {
					t.Errorf("something came of %#v that was not said", life.way[at])
				}
				if kind < 7 {
					life.way = slices.Delete(life.way, at, at+1)
				}
			case kind == 8 && draw.Intn(3) == 0:
				at := draw.Intn(size)
				life.way = slices.Delete(life.way, at, at+1)
			case kind == 9:
				life.now += draw.Intn(3)
				life.h = checkTidyShelfLike(t, life.h, life.now)
			}
		}
		for _, times := range life.came {
			if times > 0 {
				came++
			} else {
				never++
			}
		}
	}
	if came < 500 || never < 200 {
		t.Errorf("%d texts came, %d never", came, never)
	}
}

// Up to MaxHeld texts at a time, of which nothing is lost, all come, whatever
// else is held ahead of them.
func TestAllTextsComeWhenNothingIsLost(t *testing.T) {
	draw := rand.New(rand.NewSource(262))
	for number := range 300 {
		life := &shelfLife{h: fullShelf(), now: number}
		for place := range maxHeld {
			life.say(draw, 11+place, draw.Intn(256))
		}
		draw.Shuffle(len(life.way), func(a, b int) { life.way[a], life.way[b] = life.way[b], life.way[a] })
		for at := range life.way {
			if life.take(t, at) {
				t.Errorf("something came of %#v that was not said", life.way[at])
			}
		}
		if !slices.Equal(life.came, []int{1, 1, 1}) {
			t.Errorf("three texts came so often: %v", life.came)
		}
	}
}

func drawnHeld(draw *rand.Rand) impl.Held {
	came := map[int]string{}
	count := []int{2, 2, 3, 3, near(draw, 2, 5), near(draw, 2, 15)}[draw.Intn(6)]
	missing := draw.Intn(max(1, count))
	for place := range max(0, count) {
		if place != missing && draw.Intn(3) > 0 {
			came[place] = drawnText(draw.Int63(), []int{draw.Intn(4), draw.Intn(4), near(draw, 117, maxBody)}[draw.Intn(3)])
		}
	}
	if len(came) == 0 && draw.Intn(10) > 0 {
		came[(missing+1)%max(1, count)] = "one"
	}
	one := heldOf(near(draw, 1, 3), near(draw, 0, 3), count, near(draw, 0, 20), came)
	if draw.Intn(25) == 0 {
		change := changesOfHeld()
		one = firstOf(one.From, one.Id, max(2, one.Count), one.Until, "x")
		change[draw.Intn(len(change))](&one)
	}
	return one
}

func drawnShelf(draw *rand.Rand) impl.Shelf {
	var h impl.Shelf
	for range near(draw, 0, maxHeld) {
		h.List = append(h.List, drawnHeld(draw))
	}
	return h
}

// drawnPart is mostly of one that is held.
func drawnPart(draw *rand.Rand, h impl.Shelf) (int, string) {
	from, id, count := near(draw, 1, 3), draw.Intn(4), near(draw, 1, 6)
	place := draw.Intn(max(1, count))
	if len(h.List) > 0 && draw.Intn(3) > 0 {
		one := h.List[draw.Intn(len(h.List))]
		from, id = one.From, one.Id
		if draw.Intn(5) > 0 {
			count = one.Count
			place = max(draw.Intn(max(1, min(count, 256))), slices.Index(one.Have, false))
		}
	}
	if draw.Intn(40) == 0 {
		place = count
	}
	text := pieceOf(id, place, count, drawnText(draw.Int63(), []int{draw.Intn(4), near(draw, 117, maxBody)}[draw.Intn(2)]))
	if draw.Intn(60) == 0 {
		text = text[:min(len(text), draw.Intn(4))]
	}
	return from, text
}

func TestDrawnShelves(t *testing.T) {
	draw := rand.New(rand.NewSource(263))
	right, wholes, grown, anew := 0, 0, 0, 0
	for range 20000 {
		h := drawnShelf(draw)
		isRight := shelfRightLike(h)
		checkShelf(t, h, isRight)
		if isRight {
			right++
		}
		from, text := drawnPart(draw, h)
		now := []int{near(draw, 0, 30), near(draw, lastHold-3, lastHold)}[draw.Intn(10)/9]
		next, _, ok := checkAddPartLike(t, h, from, text, now)
		switch {
		case ok:
			wholes++
		case len(next.List) > len(h.List):
			grown++
		case !sameShelf(next, h):
			anew++
		}
		checkTidyShelfLike(t, h, near(draw, 0, 20))
	}
	if right < 5000 || right > 18000 || wholes < 1000 || grown < 500 || anew < 1000 {
		t.Errorf("only %d are right, %d texts are whole, %d shelves have one more, %d are others", right, wholes, grown, anew)
	}
}

// Lists of an argument may be one: those of an answer are not, even then.
func TestShelvesOfOneMemory(t *testing.T) {
	parts := []string{"x", "", "", spareText, spareText}
	have := []bool{true, false, false, true, true}
	list := []impl.Held{{From: 1, Id: 1, Count: 3, Parts: parts[:3], Have: have[:3], Until: 8}}
	list = append(list, list[0], list[0])
	list[1].Id, list[2].Id = 2, 3
	h := shelfOf(list...)
	wereParts, wereHave, were := slices.Clone(parts), slices.Clone(have), cloneShelf(h)
	held, _, _ := impl.AddPart(h, 1, pieceOf(2, 1, 3, "y"), 0)
	if want := shelfOf(were.List[0], heldOf(1, 2, 3, 8, map[int]string{0: "x", 1: "y"}), were.List[2]); !sameShelf(held, want) {
		t.Errorf("%#v is held; want %#v", held, want)
	}
	newOne, _, _ := impl.AddPart(h, 1, pieceOf(9, 1, 3, "y"), 0)
	anew, _, _ := impl.AddPart(h, 1, pieceOf(1, 1, 2, "y"), 0)
	alone, _, _ := impl.AddPart(h, 1, pieceOf(1, 0, 1, "y"), 0)
	refused, _, _ := impl.AddPart(h, 0, pieceOf(1, 0, 2, "y"), 0)
	tidy := impl.TidyShelf(h, 0)
	given := []memory{memoryOf(list, true, "List"), memoryOf(parts, true, "Parts"), memoryOf(have, true, "Have")}
	for _, got := range []impl.Shelf{held, newOne, anew, alone, refused, tidy} {
		checkDisjoint(t, "a shelf of one memory", append(listsOfShelf(got, false), given...), false)
		fillShelf(got)
	}
	if !slices.Equal(parts, wereParts) || !slices.Equal(have, wereHave) || !sameShelf(h, were) {
		t.Errorf("%#v is written into; it was %#v", h, were)
	}
}

// The text that comes may lie in the shelf itself, or the part in what is held.
func TestPartsOfTheShelfItself(t *testing.T) {
	for _, text := range []string{pieceOf(1, 1, 2, "inner"), pieceOf(1, 0, 2, "inner"), pieceOf(2, 1, 2, "inner"), pieceOf(1, 0, 1, "inner"), pieceOf(1, 1, 3, "inner")} {
		h := shelfOf(firstOf(1, 1, 2, 8, text))
		were := cloneShelf(h)
		got, whole, ok := impl.AddPart(h, 1, h.List[0].Parts[0], 3)
		want, wantWhole, right := addPartLike(were, 1, text, 3)
		if !sameShelf(got, want) || whole != wantWhole || ok != right {
			t.Errorf("AddPart(%#v, its own) = %#v, %q, %v; want %#v, %q, %v", h, got, whole, ok, want, wantWhole, right)
		}
		checkOwnTexts(t, "AddPart", []string{text}, append(textsOfShelf(got), whole)...)
		fillShelf(got)
		if !sameShelf(h, were) {
			t.Errorf("AddPart wrote into its argument: %#v; want %#v", h, were)
		}
	}
}

func TestTwoAnswersOfPiecesShareNothing(t *testing.T) {
	for _, h := range append(rightShelves(), wrongShelves()...) {
		var lists []memory
		for range 2 {
			for _, text := range []string{pieceOf(7, 1, 3, "a1"), pieceOf(8, 0, 2, "b0"), pieceOf(7, 0, 2, "anew"), pieceOf(9, 0, 2, "new"), pieceOf(7, 0, 1, "alone"), ""} {
				got, _, _ := impl.AddPart(h, 1, text, 5)
				lists = append(lists, listsOfShelf(got, false)...)
			}
			for _, now := range []int{0, 10, 11} {
				lists = append(lists, listsOfShelf(impl.TidyShelf(h, now), false)...)
			}
			parts, _ := impl.Split(7, drawnText(264, maxLong), 20)
			lists = append(lists, memoryOf(parts, false, "parts"))
			refused, _ := impl.Split(7, "", 19)
			lists = append(lists, memoryOf(refused, false, "parts"))
		}
		checkDisjoint(t, "pieces", lists, false)
	}
}

func TestRefusalsOfPiecesLeaveNothingBehind(t *testing.T) {
	h := shelfOf(firstOf(1, 7, 2, 8, "x"))
	for range 3 {
		checkNoSplit(t, 256, "x", 20)
		checkNoSplit(t, 7, "x", 19)
		checkNoSplit(t, 7, strings.Repeat("x", 301), 20)
		checkSplit(t, 7, "x", 20, []string{"\x07\x00\x01x"}, true)
		checkNoPart(t, "\x07\x02\x02y")
		checkReadPart(t, "\x07\x01\x02y", 7, 1, 2, "y", true)
		checkNotAdded(t, h, 0, "\x07\x01\x02y", 0)
		checkNotAdded(t, h, 1, "\x07\x02\x02y", 0)
		checkNotAdded(t, h, 1, "\x07\x01\x02y", -1)
		checkNotAdded(t, shelfOf(h.List[0], h.List[0]), 1, "\x07\x01\x02y", 0)
		checkNotAdded(t, h, 1, "\x07\x01\x02"+strings.Repeat("y", 121), 0)
		checkAddPart(t, h, 1, "\x07\x01\x02y", 0, impl.Shelf{}, "xy", true)
		checkHolds(t, impl.Shelf{}, 1, "\x07\x01\x02y", 0, shelfOf(heldOf(1, 7, 2, 8, map[int]string{1: "y"})))
	}
}

func TestManyAddAtOnce(t *testing.T) {
	h := fullShelf()
	text := drawnText(265, maxLong)
	wantParts, _ := splitLike(3, text, 20)
	wantHeld, _, _ := addPartLike(h, 9, wantParts[4], 5)
	wantLeft, wantWhole, _ := addPartLike(h, 1, pieceOf(7, 1, 3, "a1"), 5)
	wantTidy := tidyShelfLike(h, 10)
	var all sync.WaitGroup
	for range 16 {
		all.Go(func() {
			for range 100 {
				parts, _ := impl.Split(3, text, 20)
				held, _, _ := impl.AddPart(h, 9, parts[4], 5)
				left, whole, _ := impl.AddPart(h, 1, pieceOf(7, 1, 3, "a1"), 5)
				tidy := impl.TidyShelf(h, 10)
				if !slices.Equal(parts, wantParts) || !sameShelf(held, wantHeld) || !sameShelf(left, wantLeft) || whole != wantWhole || !sameShelf(tidy, wantTidy) {
					t.Errorf("at once %q, %#v, %#v, %q, %#v come", parts, held, left, whole, tidy)
					return
				}
			}
		})
	}
	all.Wait()
}
