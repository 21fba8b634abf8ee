package tests

import (
	"fmt"
	"math"
	"math/rand"
	"regexp"
	"slices"
	"strconv"
	"strings"
	"sync"
	"testing"

	"loop.example/g00193/impl"
)

const (
	smallSize = 20
	greatSize = 60
	mostWays  = 4
	wayMost   = 8
)

var (
	wayForm    = regexp.MustCompile(`^[a-z0-9]{1,8}$`)
	optionForm = regexp.MustCompile(`^size ([2-5][0-9]|60);ways ([a-z0-9]{1,8}(?:,[a-z0-9]{1,8}){0,3})(;pieces)?$`)
)

func optionsAt(size int, pieces bool, ways ...string) impl.Options {
	return impl.Options{Size: size, Ways: ways, Pieces: pieces}
}

func sameOptions(a, b impl.Options) bool {
	return a.Size == b.Size && slices.Equal(a.Ways, b.Ways) && a.Pieces == b.Pieces
}

func hasTwice(list []string) bool {
	sorted := slices.Sorted(slices.Values(list))
	return len(slices.Compact(sorted)) != len(list)
}

func optionsRightLike(o impl.Options) bool {
	if o.Size < smallSize || o.Size > greatSize || len(o.Ways) < 1 || len(o.Ways) > mostWays || hasTwice(o.Ways) {
		return false
	}
	return !slices.ContainsFunc(o.Ways, func(way string) bool { return !wayForm.MatchString(way) })
}

// optionTextLike is of options that are not right, too.
func optionTextLike(o impl.Options) string {
	text := fmt.Sprintf("size %d;ways %s", o.Size, strings.Join(o.Ways, ","))
	if o.Pieces {
		text += ";pieces"
	}
	return text
}

// readOptionLike has one form of the whole text, and then bars ways that stand
// twice, which no form can.
func readOptionLike(s string) (impl.Options, bool) {
	found := optionForm.FindStringSubmatch(s)
	if found == nil || hasTwice(strings.Split(found[2], ",")) {
		return impl.Options{}, false
	}
	size, _ := strconv.Atoi(found[1])
	return optionsAt(size, found[3] != "", strings.Split(found[2], ",")...), true
}

// agreeLike strikes from the first one's Ways what is not among the second
// one's, and keeps the first of the rest.
func agreeLike(a, b impl.Options) (impl.Options, bool) {
	both := slices.DeleteFunc(slices.Clone(a.Ways), func(way string) bool { return slices.Index(b.Ways, way) == -1 })
	if !optionsRightLike(a) || !optionsRightLike(b) || len(both) == 0 {
		return impl.Options{}, false
	}
	agreed := optionsAt(a.Size, a.Pieces, both[0])
	if b.Size < a.Size {
		agreed.Size = b.Size
	}
	if !b.Pieces {
		agreed.Pieces = false
	}
	return agreed, true
}

// lentOptions are options whose Ways lie in a greater room, each way in a
// longer text, and how these were.
type lentOptions struct {
	o    impl.Options
	room []string
	were []string
}

func lendOptions(o impl.Options) lentOptions {
	var ways []string
	for _, way := range o.Ways {
		ways = append(ways, inLongerText(way))
	}
	lent := lentOptions{o: o}
	lent.o.Ways, lent.room = inRoom(ways, spareText)
	lent.were = slices.Clone(lent.room)
	return lent
}

func (lent lentOptions) checkUntouched(t *testing.T, what string) {
	t.Helper()
	if !slices.Equal(lent.room, lent.were) {
		t.Errorf("%s wrote into its argument: %#v; want %#v", what, lent.room, lent.were)
	}
}

func (lent lentOptions) lists() []memory {
	return []memory{memoryOf(lent.room, true, "Ways")}
}

func (lent lentOptions) texts() []memory {
	return memoryOfTexts(lent.room, true)
}

func memoryOfTexts(list []string, given bool) []memory {
	var texts []memory
	for _, text := range list {
		texts = append(texts, memoryOfText(text, given))
	}
	return texts
}

func checkOptionsOk(t *testing.T, o impl.Options, want bool) {
	t.Helper()
	lent := lendOptions(o)
	if got := impl.OptionsOk(lent.o); got != want {
		t.Errorf("OptionsOk(%#v) = %v; want %v", o, got, want)
	}
	lent.checkUntouched(t, "OptionsOk")
}

func checkOptionText(t *testing.T, o impl.Options, want string, right bool) {
	t.Helper()
	lent := lendOptions(o)
	got, ok := impl.OptionText(lent.o)
	if got != want || ok != right {
		t.Errorf("OptionText(%#v) = %#v, %v; want %#v, %v", o, got, ok, want, right)
	}
	lent.checkUntouched(t, "OptionText")
	checkDisjoint(t, "OptionText", append(lent.texts(), memoryOfText(got, false)), true)
}

// checkReadOption writes into the whole of the answer's list, and asks again.
func checkReadOption(t *testing.T, s string, want impl.Options, right bool) {
	t.Helper()
	lent := inLongerText(s)
	got, ok := impl.ReadOption(lent)
	if !sameOptions(got, want) || ok != right {
		t.Errorf("ReadOption(%#v) = %#v, %v; want %#v, %v", s, got, ok, want, right)
	}
	checkDisjoint(t, "ReadOption", append(memoryOfTexts(got.Ways, false), memoryOfText(lent, true)), true)
	filled(got.Ways, spareText)
	if again, ok := impl.ReadOption(lent); !sameOptions(again, want) || ok != right {
		t.Errorf("ReadOption(%#v) = %#v, %v the second time; want %#v, %v", s, again, ok, want, right)
	}
}

func checkReadOptionLike(t *testing.T, s string) {
	t.Helper()
	want, right := readOptionLike(s)
	checkReadOption(t, s, want, right)
}

func checkNoOption(t *testing.T, s string) {
	t.Helper()
	checkReadOption(t, s, impl.Options{}, false)
}

func checkAgree(t *testing.T, a, b, want impl.Options, right bool) {
	t.Helper()
	first, second := lendOptions(a), lendOptions(b)
	got, ok := impl.Agree(first.o, second.o)
	if !sameOptions(got, want) || ok != right {
		t.Errorf("Agree(%#v, %#v) = %#v, %v; want %#v, %v", a, b, got, ok, want, right)
	}
	first.checkUntouched(t, "Agree")
	second.checkUntouched(t, "Agree")
	lists := slices.Concat(first.lists(), second.lists(), []memory{memoryOf(got.Ways, false, "Ways")})
	texts := slices.Concat(first.texts(), second.texts(), memoryOfTexts(got.Ways, false))
	checkDisjoint(t, "Agree", lists, false)
	checkDisjoint(t, "Agree", texts, true)
	checkBothCan(t, a, b, got, ok)
}

func checkAgreeLike(t *testing.T, a, b impl.Options) {
	t.Helper()
	want, right := agreeLike(a, b)
	checkAgree(t, a, b, want, right)
}

func checkNoAgree(t *testing.T, a, b impl.Options) {
	t.Helper()
	checkAgree(t, a, b, impl.Options{}, false)
	checkAgree(t, b, a, impl.Options{}, false)
}

// checkBothCan holds what promise 15 says against what is agreed.
func checkBothCan(t *testing.T, a, b, agreed impl.Options, ok bool) {
	t.Helper()
	other, otherOk := impl.Agree(b, a)
	if otherOk != ok || other.Size != agreed.Size || other.Pieces != agreed.Pieces {
		t.Errorf("Agree(%#v, %#v) is %#v, %v, but the other way round %#v, %v", a, b, agreed, ok, other, otherOk)
	}
	if !ok {
		return
	}
	if !optionsRightLike(agreed) || !impl.OptionsOk(agreed) || len(agreed.Ways) != 1 {
		t.Errorf("Agree(%#v, %#v) = %#v is not right, or has more ways than one", a, b, agreed)
		return
	}
	for _, one := range []impl.Options{a, b} {
		if agreed.Size > one.Size || !slices.Contains(one.Ways, agreed.Ways[0]) || agreed.Pieces && !one.Pieces {
			t.Errorf("Agree(%#v, %#v) = %#v is not what %#v can", a, b, agreed, one)
		}
		if still, ok := impl.Agree(agreed, one); !ok || !sameOptions(still, agreed) {
			t.Errorf("Agree(%#v, %#v) = %#v, %v; want what is agreed", agreed, one, still, ok)
		}
	}
}

func checkOptions(t *testing.T, o impl.Options, text string) {
	t.Helper()
	checkOptionsOk(t, o, true)
	checkOptionText(t, o, text, true)
	checkReadOption(t, text, o, true)
	checkAgree(t, o, o, optionsAt(o.Size, o.Pieces, o.Ways[0]), true)
}

// checkWrongOptions has them agree with others on each way that is one, too.
func checkWrongOptions(t *testing.T, o impl.Options) {
	t.Helper()
	checkOptionsOk(t, o, false)
	checkOptionText(t, o, "", false)
	checkNoAgree(t, o, o)
	checkNoAgree(t, o, optionsAt(30, true, "x"))
	for _, way := range o.Ways[:min(len(o.Ways), mostWays+1)] {
		if wayForm.MatchString(way) {
			checkNoAgree(t, o, optionsAt(30, true, way))
			checkNoAgree(t, o, optionsAt(30, true, "other", way))
		}
	}
}

// checkBarredOptions is of options whose text is no other ones'.
func checkBarredOptions(t *testing.T, o impl.Options) {
	t.Helper()
	checkWrongOptions(t, o)
	checkNoOption(t, optionTextLike(o))
}

func waysOfNote() [][]string {
	return [][]string{
		{"x"},
		{"a"},
		{"z"},
		{"0"},
		{"9"},
		{"az09"},
		{"abcdefgh"},
		{"stuvwxyz"},
		{"01234567"},
		{"23456789"},
		{"zzzzzzzz"},
		{"size"},
		{"ways"},
		{"pieces"},
		{"x", "y"},
		{"y", "x"},
		{"a", "aa"},
		{"aa", "a"},
		{"aaaaaaaa", "aaaaaaa"},
		{"abcdefgh", "abcdefgi"},
		{"0", "00", "000"},
		{"a", "z", "0", "9"},
		{"9", "0", "z", "a"},
		{"1", "11", "111", "1111"},
		{"abcdefg1", "abcdefg2", "abcdefg3", "abcdefg4"},
		{"aaaaaaaa", "zzzzzzzz", "00000000", "99999999"},
		{"size", "ways", "pieces", "x"},
		{"pieces", "pieces1", "piece", "p"},
	}
}

func optionsOfNote() []impl.Options {
	var list []impl.Options
	for _, ways := range waysOfNote() {
		for _, size := range []int{20, 21, 29, 30, 40, 59, 60} {
			list = append(list, optionsAt(size, false, ways...), optionsAt(size, true, ways...))
		}
	}
	return list
}

// fewOptions are right, for tests that do much with each.
func fewOptions() []impl.Options {
	return []impl.Options{
		optionsAt(20, false, "x"),
		optionsAt(60, true, "x"),
		optionsAt(30, true, "x", "y"),
		optionsAt(45, false, "a", "z", "0", "9"),
		optionsAt(59, true, "abcdefgh", "stuvwxyz", "01234567", "23456789"),
		optionsAt(22, false, "size", "ways", "pieces"),
	}
}

func sizesOutside() []int {
	return []int{19, 61, 0, -1, -20, -30, -60, 1, 2, 10, 62, 99, 100, 120, 121, 200, 256 + 30, 1<<32 + 30, 1<<62 + 30, mostNum, mostNum + 1, math.MinInt, math.MinInt + 30, math.MaxInt - 1, math.MaxInt}
}

func waysOutside() []string {
	return []string{
		"", "abcdefghi", "012345678", "aaaaaaaaa", strings.Repeat("a", 16), strings.Repeat("a", 256), strings.Repeat("a", 257),
		"`", "{", "/", ":", "A", "Z", "M", "@", "[", " ", ",", ";", "-", "_", ".", "\x00", "\n", "\t", "\x7f", "\x80", "\xe1", "\xfa", "\xff", "ä", "é", "a\x00", "\x00a",
		"aB", "Ba", "a b", " a", "a ", "a,b", ",a", "a,", "a;b", ";a", "a;", "a;pieces", "abcdefg;", "abcdefg{", "`bcdefgh", "0:", "/0", "aaaAaaaa", "aaaaaaa\xff",
	}
}

func TestFixedOptions(t *testing.T) {
	for _, c := range []struct {
		o    impl.Options
		text string
	}{
		{optionsAt(30, true, "x", "y"), "size 30;ways x,y;pieces"},
		{optionsAt(30, false, "x", "y"), "size 30;ways x,y"},
		{optionsAt(20, false, "a"), "size 20;ways a"},
		{optionsAt(60, true, "9"), "size 60;ways 9;pieces"},
		{optionsAt(impl.MaxBody-60, false, "0"), "size 60;ways 0"},
		{optionsAt(59, false, "z", "0", "9"), "size 59;ways z,0,9"},
		{optionsAt(21, true, "a", "z", "0", "9"), "size 21;ways a,z,0,9;pieces"},
		{optionsAt(47, false, "abcdefgh", "ijklmnop", "qrstuvwx", "yz012345"), "size 47;ways abcdefgh,ijklmnop,qrstuvwx,yz012345"},
		{optionsAt(33, true, "pieces"), "size 33;ways pieces;pieces"},
		{optionsAt(33, false, "pieces"), "size 33;ways pieces"},
		{optionsAt(33, false, "ways", "size"), "size 33;ways ways,size"},
	} {
		checkOptions(t, c.o, c.text)
	}
}

func TestOptionsComeBack(t *testing.T) {
	for _, o := range append(optionsOfNote(), fewOptions()...) {
		text, ok := impl.OptionText(o)
		if !ok {
			t.Fatalf("OptionText(%#v) is refused", o)
		}
		if got, ok := impl.ReadOption(text); !ok || !sameOptions(got, o) {
			t.Errorf("%#v is read back as %#v, %v", o, got, ok)
		}
		checkOptions(t, o, optionTextLike(o))
	}
}

func TestOptionsOfEverySize(t *testing.T) {
	for size := -5; size <= 2*maxBody; size++ {
		for _, ways := range [][]string{{"x"}, {"a", "b", "c", "d"}} {
			for _, pieces := range []bool{false, true} {
				o := optionsAt(size, pieces, ways...)
				if size >= 20 && size <= 60 {
					checkOptions(t, o, optionTextLike(o))
				} else {
					checkBarredOptions(t, o)
				}
			}
		}
	}
}

func TestOptionsOfWrongSizes(t *testing.T) {
	for _, o := range fewOptions() {
		for _, size := range sizesOutside() {
			o.Size = size
			checkBarredOptions(t, o)
		}
	}
}

func TestOptionsOfSoManyWays(t *testing.T) {
	for count := range 300 {
		o := optionsAt(30, count%2 == 1, namedTexts("w", count)...)
		if count >= 1 && count <= mostWays {
			checkOptions(t, o, optionTextLike(o))
		} else {
			checkBarredOptions(t, o)
		}
	}
	for _, ways := range [][]string{nil, {}, make([]string, 0, 4)} {
		checkBarredOptions(t, optionsAt(20, false, ways...))
		checkBarredOptions(t, optionsAt(60, true, ways...))
	}
}

func TestWaysOfEveryLength(t *testing.T) {
	for size := range 30 {
		for _, letter := range []string{"a", "z", "0", "9", "m", "5"} {
			way := strings.Repeat(letter, size)
			for _, ways := range [][]string{{way}, {"x", way}, {way, "x"}, {"x", "y", "w", way}} {
				o := optionsAt(30, true, ways...)
				if size >= 1 && size <= wayMost {
					checkOptions(t, o, optionTextLike(o))
				} else {
					checkBarredOptions(t, o)
				}
			}
		}
	}
}

// At each place of a way every byte is a way's, or it is not.
func TestEveryByteOfAWay(t *testing.T) {
	for b := range 256 {
		letter := string([]byte{byte(b)})
		right := strings.Contains("abcdefghijklmnopqrstuvwxyz0123456789", letter)
		for place := range wayMost {
			for _, size := range []int{place + 1, wayMost} {
				way := strings.Repeat("q", place) + letter + strings.Repeat("q", size-place-1)
				for _, o := range []impl.Options{optionsAt(30, false, way), optionsAt(30, true, "other", way), optionsAt(30, true, way, "other")} {
					if right {
						checkOptions(t, o, optionTextLike(o))
					} else {
						checkWrongOptions(t, o)
						checkReadOptionLike(t, optionTextLike(o))
					}
				}
			}
		}
	}
}

func TestWrongWays(t *testing.T) {
	for _, way := range waysOutside() {
		for _, ways := range [][]string{{way}, {way, "x"}, {"x", way}, {"a", "x", way}, {"a", way, "x", "y"}, {"a", "x", "y", way}, {way, "a", "x", "y"}} {
			for _, pieces := range []bool{false, true} {
				o := optionsAt(30, pieces, ways...)
				checkWrongOptions(t, o)
				checkReadOptionLike(t, optionTextLike(o))
			}
		}
	}
}

// Ways with a stop in them write what others write: the text is those others'.
func TestAStopInAWayIsTwoWays(t *testing.T) {
	checkWrongOptions(t, optionsAt(30, false, "a,b"))
	checkReadOption(t, "size 30;ways a,b", optionsAt(30, false, "a", "b"), true)
	checkWrongOptions(t, optionsAt(30, false, "a", "b;pieces"))
	checkWrongOptions(t, optionsAt(30, false, "a;pieces"))
	checkReadOption(t, "size 30;ways a;pieces", optionsAt(30, true, "a"), true)
}

func TestWaysThatStandTwice(t *testing.T) {
	for _, way := range []string{"x", "a", "9", "abcdefgh", "00000000"} {
		for _, ways := range [][]string{
			{way, way},
			{way, way, "y"},
			{way, "y", way},
			{"y", way, way},
			{way, way, way},
			{way, way, "y", "w"},
			{way, "y", way, "w"},
			{way, "y", "w", way},
			{"y", way, way, "w"},
			{"y", way, "w", way},
			{"y", "w", way, way},
			{way, way, "y", "y"},
			{way, "y", way, "y"},
			{way, "y", "y", way},
			{way, way, way, "y"},
			{way, way, way, way},
			{way, way, way, way, way},
		} {
			for _, size := range []int{20, 30, 60} {
				checkBarredOptions(t, optionsAt(size, false, ways...))
				checkBarredOptions(t, optionsAt(size, true, ways...))
			}
		}
	}
}

// Two ways are alike when their bytes are, wherever these lie.
func TestWaysAlikeInOtherMemory(t *testing.T) {
	text := "abab"
	checkBarredOptions(t, optionsAt(30, false, text[:2], text[2:]))
	checkBarredOptions(t, optionsAt(30, false, text[:2], "y", strings.Clone(text[2:])))
	o := optionsAt(30, false, text[:2], text[1:3], text[:3], text)
	checkOptions(t, o, "size 30;ways ab,ba,aba,abab")
}

func TestEveryListOfFewWays(t *testing.T) {
	few := []string{"a", "b", "", "aa", "A"}
	var try func(ways []string)
	try = func(ways []string) {
		o := optionsAt(20+len(ways), len(ways)%2 == 0, ways...)
		if optionsRightLike(o) {
			checkOptions(t, o, optionTextLike(o))
		} else {
			checkBarredOptions(t, o)
		}
		if len(ways) < 5 {
			for _, way := range few {
				try(append(slices.Clone(ways), way))
			}
		}
	}
	try(nil)
}

func TestNothingIsNoOptions(t *testing.T) {
	checkBarredOptions(t, impl.Options{})
	checkBarredOptions(t, impl.Options{Pieces: true})
	checkNoOption(t, "")
}

func TestTextsNearAnOption(t *testing.T) {
	for _, text := range []string{
		// A part left out.
		"size 30", "ways x,y", "pieces", "size 30;pieces", "ways x,y;pieces", ";ways x,y;pieces", "size 30;;pieces", "30;x,y", "size;ways", "size ;ways ", "size 30;ways", "size 30;ways ", "size 30;ways ;pieces", "size 30;x,y", "30;ways x,y", "size;ways x,y", "size ;ways x,y",
		// A part twice.
		"size 30;size 30;ways x,y", "size 30;size 30", "size 31;size 30;ways x,y", "size 30;ways x,y;ways x,y", "size 30;ways y;ways x,y", "size 30;ways x;ways y", "size 30;ways x,y;size 30", "size 30;size 30;ways x,y;pieces", "size 30;ways x,y;pieces;pieces", "size 30;ways x,y;ways x,y;pieces", "size 30;ways x,y;size 30;ways x,y", "size 30;ways x,y;piecespieces", "size size 30;ways x,y", "size 30;ways ways x,y",
		// Another order.
		"ways x,y;size 30", "ways x,y;size 30;pieces", "pieces;size 30;ways x,y", "pieces;ways x,y;size 30", "size 30;pieces;ways x,y", "ways x,y;pieces;size 30", "size x,y;ways 30",
		// A blank too many or too few.
		" size 30;ways x,y", "size  30;ways x,y", "size 30 ;ways x,y", "size 30; ways x,y", "size 30;ways  x,y", "size 30;ways x ,y", "size 30;ways x, y", "size 30;ways x,y ", "size 30;ways x,y ;pieces", "size 30;ways x,y; pieces", "size 30;ways x,y;pieces ", "size30;ways x,y", "size 30;waysx,y", "si ze 30;ways x,y", "size 3 0;ways x,y", "size\t30;ways x,y", "size 30;ways\tx,y", "size 30;ways x,y;pie ces", "size 30;ways x y", "size 30 ways x,y", "size 30;ways x,y pieces",
		// The number.
		"size 030;ways x,y", "size 0030;ways x,y", "size 000000000030;ways x,y", "size +30;ways x,y", "size -30;ways x,y", "size -0;ways x,y", "size 3O;ways x,y", "size x;ways x,y", "size 30x;ways x,y", "size x30;ways x,y", "size 3x0;ways x,y", "size 30.0;ways x,y", "size 3e1;ways x,y", "size 0x1e;ways x,y", "size 3_0;ways x,y", "size 1e;ways x,y", "size 30,30;ways x,y", "size 19;ways x,y", "size 61;ways x,y", "size 0;ways x,y", "size 3;ways x,y", "size 300;ways x,y", "size 1000000000;ways x,y", "size 1000000030;ways x,y", "size 4294967326;ways x,y", "size 18446744073709551646;ways x,y", "size 340282366920938463463374607431768211486;ways x,y", "size \xd9\xa3\xd9\xa0;ways x,y",
		// A stop at an end, or twice.
		"size 30;ways x,y;", "size 30;ways x,y;pieces;", ";size 30;ways x,y", "size 30;;ways x,y", "size 30;ways x,y;;pieces", "size 30;ways x,y;;", "size 30;ways x,y,", "size 30;ways x,y,;pieces", "size 30;ways ,x,y", "size 30;ways x,,y", "size 30;ways x,,y;pieces", "size 30;ways ,", "size 30;ways ,,", "size 30;ways x,", "size 30;ways ,x", "size 30,ways x,y", "size 30;ways x;y", "size 30;ways x;y;pieces", "size 30;ways x,y,pieces;",
		// What is behind, and other words.
		"size 30;ways x,y;pieces1", "size 30;ways x,y;pieces 1", "size 30;ways x,y;pieces true", "size 30;ways x,y;pieces;x", "size 30;ways x,y;pieces\n", "size 30;ways x,y;pieces\x00", "size 30;ways x,y\n", "size 30;ways x,y\x00", "size 30;ways x,y;x", "size 30;ways x,y;x;pieces", "size 30;x;ways x,y", "size 30;ways x,y;piece", "size 30;ways x,y;ieces", "size 30;ways x,y;Pieces", "size 30;ways x,y;PIECES", "size 30;ways x,y;no pieces", "Size 30;ways x,y", "SIZE 30;ways x,y", "size 30;Ways x,y", "size 30;way x,y", "sizes 30;ways x,y", "xsize 30;ways x,y", "\x00size 30;ways x,y", "\nsize 30;ways x,y", "size 30;ways x,y;size", "size 30;ways x,y;ways",
		// The ways.
		"size 30;ways x,x", "size 30;ways x,x;pieces", "size 30;ways x,y,x", "size 30;ways x,y,w,x", "size 30;ways x,y,y", "size 30;ways a,b,c,d,e", "size 30;ways a,b,c,d,e;pieces", "size 30;ways a,b,c,d,", "size 30;ways a,b,c,d,d", "size 30;ways abcdefghi", "size 30;ways x,abcdefghi", "size 30;ways X", "size 30;ways x,Y", "size 30;ways x/y", "size 30;ways x:y", "size 30;ways `", "size 30;ways {", "size 30;ways \xff", "size 30;ways ä",
		// Nothing but stops and blanks.
		";", ";;", ";;;", ",", " ", "  ", " ; ; ", "\n", "\x00",
	} {
		checkNoOption(t, text)
	}
	checkReadOption(t, "size 30;ways x,y", optionsAt(30, false, "x", "y"), true)
	checkReadOption(t, "size 30;ways x,y;pieces", optionsAt(30, true, "x", "y"), true)
	checkReadOption(t, "size 30;ways x,y,pieces", optionsAt(30, false, "x", "y", "pieces"), true)
}

func TestAnOptionCutShortOrMadeLonger(t *testing.T) {
	for _, o := range fewOptions() {
		text := optionTextLike(o)
		for cut := range len(text) + 1 {
			checkReadOptionLike(t, text[:cut])
			checkReadOptionLike(t, text[cut:])
			for more := cut; more <= len(text); more++ {
				checkReadOptionLike(t, text[:cut]+text[more:])
				checkReadOptionLike(t, text[:more]+text[cut:])
			}
		}
		for _, more := range []string{" ", ";", ",", "x", "0", "\x00", "\n", text, ";" + text, strings.Repeat(" ", 1000)} {
			checkReadOptionLike(t, text+more)
			checkReadOptionLike(t, more+text)
		}
	}
}

func TestAnOptionWithOneByteChanged(t *testing.T) {
	for _, o := range fewOptions() {
		text := optionTextLike(o)
		for place := range len(text) {
			for b := range 256 {
				letter := string([]byte{byte(b)})
				checkReadOptionLike(t, text[:place]+letter+text[place+1:])
				checkReadOptionLike(t, text[:place]+letter+text[place:])
			}
			if place > 0 {
				checkReadOptionLike(t, text[:place-1]+text[place:place+1]+text[place-1:place]+text[place+1:])
			}
		}
	}
}

// Every text of few parts, in whatever order and with whatever stops.
func TestTextsPutTogetherFromParts(t *testing.T) {
	parts := []string{"size 30", "ways x,y", "pieces", "", "size 20", "ways a", "x", " "}
	read := 0
	var try func(list []string)
	try = func(list []string) {
		for _, stop := range []string{";", ",", " ", ";;", "; ", ""} {
			text := strings.Join(list, stop)
			if _, ok := readOptionLike(text); ok {
				read++
			}
			checkReadOptionLike(t, text)
		}
		if len(list) < 4 {
			for _, part := range parts {
				try(append(slices.Clone(list), part))
			}
		}
	}
	try(nil)
	if read < 8 {
		t.Errorf("only %d of the texts are options'", read)
	}
}

func TestLongTextsAreNoOptions(t *testing.T) {
	text := "size 30;ways x,y;pieces"
	for _, long := range []string{
		strings.Repeat(";", 100000),
		strings.Repeat(",", 100000),
		strings.Repeat(text+";", 5000),
		"size " + strings.Repeat("0", 100000) + "30;ways x",
		"size " + strings.Repeat("9", 100000) + ";ways x",
		"size 30;ways " + strings.Repeat("x", 100000),
		"size 30;ways " + strings.Repeat("x,", 100000) + "y",
		"size 30;ways x" + strings.Repeat(";pieces", 100000),
		strings.Repeat("size 30;", 100000) + "ways x",
	} {
		checkNoOption(t, long)
	}
}

func TestReadsOfDrawnOptionTexts(t *testing.T) {
	draw := rand.New(rand.NewSource(191))
	words := []string{"size ", "size ", "ways ", "ways ", "pieces", ";", ";", ";", ",", ",", "30", "20", "60", "19", "61", "a", "b", "a1", "abcdefgh", "abcdefghi", " ", "0", "A"}
	begins := []string{"", "size 30;", "size 60;ways ", "size 20;ways a", "size 59;ways a,b", "size 21;ways a,b,"}
	read := 0
	for range 100000 {
		text := begins[draw.Intn(len(begins))]
		for range draw.Intn(7) {
			text += words[draw.Intn(len(words))]
		}
		want, right := readOptionLike(text)
		got, ok := impl.ReadOption(text)
		if !sameOptions(got, want) || ok != right {
			t.Fatalf("ReadOption(%#v) = %#v, %v; want %#v, %v", text, got, ok, want, right)
		}
		if !ok {
			continue
		}
		read++
		if again, ok := impl.OptionText(got); !ok || again != text {
			t.Fatalf("%#v is read as %#v, whose text is %#v, %v", text, got, again, ok)
		}
	}
	if read < 1000 {
		t.Errorf("only %d of the drawn texts are options'", read)
	}
}

func TestFixedAgreements(t *testing.T) {
	for _, c := range []struct {
		a, b, want impl.Options
	}{
		{optionsAt(30, true, "x", "y"), optionsAt(25, false, "y"), optionsAt(25, false, "y")},
		{optionsAt(25, false, "y"), optionsAt(30, true, "x", "y"), optionsAt(25, false, "y")},
		{optionsAt(20, true, "x", "y"), optionsAt(60, true, "y", "x"), optionsAt(20, true, "x")},
		{optionsAt(60, true, "y", "x"), optionsAt(20, true, "x", "y"), optionsAt(20, true, "y")},
		{optionsAt(60, false, "x"), optionsAt(60, false, "x"), optionsAt(60, false, "x")},
		{optionsAt(20, true, "x"), optionsAt(20, true, "x"), optionsAt(20, true, "x")},
		{optionsAt(59, true, "a", "b", "c", "d"), optionsAt(60, false, "d", "c"), optionsAt(59, false, "c")},
		{optionsAt(60, false, "d", "c"), optionsAt(59, true, "a", "b", "c", "d"), optionsAt(59, false, "d")},
		{optionsAt(40, true, "a", "b", "c", "d"), optionsAt(41, true, "e", "f", "g", "d"), optionsAt(40, true, "d")},
		{optionsAt(41, true, "d", "a", "b", "c"), optionsAt(40, true, "e", "f", "g", "d"), optionsAt(40, true, "d")},
		{optionsAt(30, true, "a", "aa", "aaa"), optionsAt(30, true, "aaaa", "aaa", "aa"), optionsAt(30, true, "aa")},
	} {
		checkAgree(t, c.a, c.b, c.want, true)
	}
}

func TestSizesAndPiecesOfAnAgreement(t *testing.T) {
	for a := smallSize; a <= greatSize; a++ {
		for b := smallSize; b <= greatSize; b++ {
			for kind := range 4 {
				first, second := optionsAt(a, kind&1 != 0, "x", "y"), optionsAt(b, kind&2 != 0, "y", "w")
				checkAgree(t, first, second, optionsAt(min(a, b), kind == 3, "y"), true)
			}
		}
	}
}

// The one way in both stands at each place of either, among others.
func TestTheOneWayInBothAtEachPlace(t *testing.T) {
	for first := 1; first <= mostWays; first++ {
		for second := 1; second <= mostWays; second++ {
			for at := range first {
				for other := range second {
					a, b := namedTexts("a", first), namedTexts("b", second)
					a[at], b[other] = "both", "both"
					checkAgree(t, optionsAt(33, true, a...), optionsAt(44, true, b...), optionsAt(33, true, "both"), true)
				}
			}
		}
	}
}

func TestNoWayInBoth(t *testing.T) {
	for first := 1; first <= mostWays; first++ {
		for second := 1; second <= mostWays; second++ {
			for kind := range 4 {
				checkNoAgree(t, optionsAt(33, kind&1 != 0, namedTexts("a", first)...), optionsAt(44, kind&2 != 0, namedTexts("b", second)...))
			}
		}
	}
	for _, c := range [][2]string{{"a", "aa"}, {"abcdefgh", "abcdefg"}, {"abcdefgh", "abcdefgi"}, {"abcdefgh", "bbcdefgh"}, {"ab", "ba"}, {"0", "00"}, {"1", "01"}} {
		checkNoAgree(t, optionsAt(30, true, c[0]), optionsAt(30, true, c[1]))
		checkNoAgree(t, optionsAt(30, true, c[0], "x"), optionsAt(30, true, "y", c[1]))
	}
}

// listsFrom are all lists of one to four unlike ways out of these.
func listsFrom(names []string, ahead []string) [][]string {
	var lists [][]string
	if len(ahead) > 0 {
		lists = append(lists, ahead)
	}
	if len(ahead) == mostWays {
		return lists
	}
	for _, name := range names {
		if !slices.Contains(ahead, name) {
			lists = append(lists, listsFrom(names, append(slices.Clone(ahead), name))...)
		}
	}
	return lists
}

func TestAgreementsOfAllListsOfFiveWays(t *testing.T) {
	lists := listsFrom([]string{"a", "b", "0", "ab", "abcdefgh"}, nil)
	if len(lists) != 5+20+60+120 {
		t.Fatalf("%d lists", len(lists))
	}
	for place, a := range lists {
		for other, b := range lists {
			checkAgreeLike(t, optionsAt(smallSize+place%41, place%3 > 0, a...), optionsAt(smallSize+other%41, other%5 > 1, b...))
		}
	}
}

// Each kind of wrong options is refused ahead of any way that is in both.
func TestAgreementsOfWrongOptions(t *testing.T) {
	right := []impl.Options{optionsAt(30, true, "x"), optionsAt(20, false, "x", "y"), optionsAt(60, true, "a", "b", "c", "x")}
	wrong := []impl.Options{
		{},
		optionsAt(19, true, "x"),
		optionsAt(61, true, "x"),
		optionsAt(0, true, "x"),
		optionsAt(-1, true, "x"),
		optionsAt(math.MinInt, true, "x"),
		optionsAt(math.MaxInt, true, "x"),
		optionsAt(30, true),
		optionsAt(30, true, "x", "x"),
		optionsAt(30, true, "x", "y", "x"),
		optionsAt(30, true, "x", "y", "y"),
		optionsAt(30, true, "x", "y", "w", "v", "u"),
		optionsAt(30, true, "y", "w", "v", "u", "x"),
		optionsAt(30, true, "x", ""),
		optionsAt(30, true, "", "x"),
		optionsAt(30, true, "x", "abcdefghi"),
		optionsAt(30, true, "x", "X"),
		optionsAt(30, true, "X", "x"),
		optionsAt(30, true, "x", "a b"),
		optionsAt(30, true, "x", "a,b"),
		optionsAt(30, true, "x", "a;b"),
		optionsAt(30, true, "x", "\xff"),
	}
	for _, no := range wrong {
		checkWrongOptions(t, no)
		for _, o := range right {
			checkNoAgree(t, no, o)
		}
		for _, other := range wrong {
			checkNoAgree(t, no, other)
		}
	}
}

func drawnOptions(draw *rand.Rand) impl.Options {
	names := []string{"a", "b", "c", "d", "e", "ab", "a1", "00", "abcdefgh", "zzzzzzzz"}
	o := impl.Options{Size: smallSize + draw.Intn(41), Pieces: draw.Intn(2) == 0}
	if draw.Intn(10) == 0 {
		o.Size = sizesOutside()[draw.Intn(len(sizesOutside()))]
	}
	draw.Shuffle(len(names), func(i, j int) { names[i], names[j] = names[j], names[i] })
	o.Ways = names[:1+draw.Intn(mostWays)]
	switch draw.Intn(12) {
	case 0:
		o.Ways[draw.Intn(len(o.Ways))] = waysOutside()[draw.Intn(len(waysOutside()))]
	case 1:
		o.Ways[draw.Intn(len(o.Ways))] = o.Ways[draw.Intn(len(o.Ways))]
	case 2:
		o.Ways = names[:draw.Intn(len(names))]
	}
	return o
}

func TestDrawnOptions(t *testing.T) {
	draw := rand.New(rand.NewSource(192))
	right, agreed := 0, 0
	for range 20000 {
		a, b := drawnOptions(draw), drawnOptions(draw)
		if optionsRightLike(a) {
			right++
			checkOptions(t, a, optionTextLike(a))
		} else {
			checkWrongOptions(t, a)
			checkReadOptionLike(t, optionTextLike(a))
		}
		if _, ok := agreeLike(a, b); ok {
			agreed++
		}
		checkAgreeLike(t, a, b)
	}
	if right < 5000 || agreed < 2000 {
		t.Errorf("only %d of the drawn options are right, and %d agree", right, agreed)
	}
}

// Both may lie in one memory; what is agreed still lies in its own.
func TestAgreementsInOneMemory(t *testing.T) {
	ways, room := inRoom([]string{"a", "b", "c", "d"}, spareText)
	before := slices.Clone(room)
	for _, c := range []struct {
		a, b []string
		want string
	}{
		{ways, ways, "a"},
		{ways[:2], ways[1:], "b"},
		{ways[1:], ways[:2], "b"},
		{ways[3:], ways, "d"},
		{ways, ways[3:], "d"},
	} {
		got, ok := impl.Agree(optionsAt(40, true, c.a...), optionsAt(50, true, c.b...))
		if !ok || !sameOptions(got, optionsAt(40, true, c.want)) {
			t.Errorf("Agree(%#v, %#v) = %#v, %v; want %#v", c.a, c.b, got, ok, c.want)
		}
		checkDisjoint(t, "Agree", append(memoryOfTexts(room, true), memoryOfTexts(got.Ways, false)...), true)
		checkApart(t, "Agree", room, before, got.Ways, "mark")
	}
	if got, ok := impl.Agree(optionsAt(40, true, ways[:2]...), optionsAt(40, true, ways[2:]...)); ok || !sameOptions(got, impl.Options{}) {
		t.Errorf("two halves agree on %#v", got)
	}
}

func TestTwoAnswersOfOptionsShareNothing(t *testing.T) {
	for _, o := range fewOptions() {
		text := optionTextLike(o)
		var lists []memory
		for range 3 {
			read, _ := impl.ReadOption(text)
			agreed, _ := impl.Agree(o, read)
			lists = append(lists, memoryOf(read.Ways, false, "Ways that are read"), memoryOf(agreed.Ways, false, "Ways that are agreed"))
			defer func() {
				if !sameOptions(read, o) || !sameOptions(agreed, optionsAt(o.Size, o.Pieces, o.Ways[0])) {
					t.Errorf("answers of %#v changed: %#v, %#v", text, read, agreed)
				}
			}()
		}
		checkDisjoint(t, "an option", lists, false)
	}
}

func TestRefusedOptionsLeaveNothingBehind(t *testing.T) {
	a, b := optionsAt(30, false, "x", "y"), optionsAt(25, true, "w", "y")
	for range 3 {
		checkNoOption(t, "size 60;ways q,r,s,t;pieces;")
		checkNoOption(t, "pieces")
		checkWrongOptions(t, optionsAt(61, true, "x", "y"))
		checkNoAgree(t, optionsAt(60, true, "y", "y"), b)
		checkOptions(t, a, "size 30;ways x,y")
		checkAgree(t, a, b, optionsAt(25, false, "y"), true)
	}
}

func TestManyAgreeAtOnce(t *testing.T) {
	var all sync.WaitGroup
	list := fewOptions()
	for range 8 {
		all.Go(func() {
			for _, a := range list {
				for _, b := range list {
					want, right := agreeLike(a, b)
					read, _ := impl.ReadOption(optionTextLike(a))
					if got, ok := impl.Agree(a, b); ok != right || !sameOptions(got, want) || !sameOptions(read, a) {
						t.Errorf("Agree(%#v, %#v) = %#v, %v; want %#v, %v", a, b, got, ok, want, right)
						return
					}
				}
			}
		})
	}
	all.Wait()
}
