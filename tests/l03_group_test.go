package tests

import (
	"encoding/binary"
	"math"
	"math/big"
	"math/rand"
	"testing"

	"loop.example/g00193/impl"
)

// factorsOfNote are on both sides of 0 and of Prime's multiples, the ends of
// int, and drawn ones from all of it.
func factorsOfNote() []int {
	list := []int{0, 1, 2, 3, 4, 255, 46340, 46341, 65536, impl.Order - 1, impl.Order, impl.Order + 1, 1<<31 - 1, 1 << 31, 1 << 32, math.MaxInt - 1, math.MaxInt, math.MinInt, math.MinInt + 1}
	for _, n := range []int{-3, -2, -1, 1, 2, 3} {
		list = append(list, n*impl.Prime-1, n*impl.Prime, n*impl.Prime+1)
	}
	for _, n := range []int{1, 2, 3, 4, impl.Order} {
		list = append(list, -n)
	}
	draw := rand.New(rand.NewSource(31))
	for range 60 {
		list = append(list, draw.Intn(impl.Prime), int(draw.Uint64()))
	}
	return list
}

func powersOfNote() []int {
	list := []int{0, 1, 2, 3, 4, 7, 8, 31, 32, 255, 256, impl.Order - 1, impl.Order, impl.Order + 1, impl.Prime - 2, impl.Prime - 1, impl.Prime}
	draw := rand.New(rand.NewSource(32))
	for range 40 {
		list = append(list, draw.Intn(impl.Prime+1))
	}
	return list
}

func powersOutside() []int {
	return []int{-1, -2, -impl.Order, -impl.Prime, math.MinInt, impl.Prime + 1, impl.Prime + 2, 2 * impl.Prime, 1 << 31, 1 << 32, 1<<32 + 1, math.MaxInt}
}

// mulLike and powLike count with numbers of any size, which no product passes.
func mulLike(a, b int) int {
	product := new(big.Int).Mul(big.NewInt(int64(a)), big.NewInt(int64(b)))
	return int(product.Mod(product, big.NewInt(impl.Prime)).Int64())
}

func powLike(b, e int) int {
	return int(new(big.Int).Exp(big.NewInt(int64(b)), big.NewInt(int64(e)), big.NewInt(impl.Prime)).Int64())
}

func checkMul(t *testing.T, a, b, want int) {
	t.Helper()
	if got := impl.MulP(a, b); got != want {
		t.Errorf("MulP(%d, %d) = %d; want %d", a, b, got, want)
	}
}

func checkPow(t *testing.T, b, e, want int) {
	t.Helper()
	if got := impl.PowP(b, e); got != want {
		t.Errorf("PowP(%d, %d) = %d; want %d", b, e, got, want)
	}
}

func TestConstantsOfAGroup(t *testing.T) {
	if impl.Prime != 2147483579 || impl.Order != 1073741789 || impl.Base != 4 {
		t.Error("a constant is not the document's")
	}
}

func TestMulPOfFixedNumbers(t *testing.T) {
	for _, c := range []struct{ a, b, want int }{
		{0, 0, 0},
		{0, 5, 0},
		{1, 1, 1},
		{2, 3, 6},
		{46341, 46341, 4702},
		{65536, 65536, 138},
		{123456789, 987654321, 1703135516},
		{-1, 0, 0},
		{-1, 1, 2147483578},
		{-1, -1, 1},
		{impl.Prime - 1, 1, impl.Prime - 1},
		{impl.Prime - 1, 2, impl.Prime - 2},
		{impl.Prime - 1, impl.Prime - 1, 1},
		{impl.Prime, 1, 0},
		{impl.Prime, impl.Prime, 0},
		{-impl.Prime, 5, 0},
		{-impl.Prime - 1, 5, 2147483574},
		{impl.Prime + 1, impl.Prime + 2, 2},
		{2*impl.Prime + 3, 7, 21},
		{1 << 32, 1 << 32, 19044},
		{math.MinInt, 0, 0},
		{math.MinInt, 1, 2147474057},
		{math.MaxInt, 1, 9521},
		{math.MinInt, math.MinInt, 90668484},
		{math.MaxInt, math.MaxInt, 90649441},
		{math.MinInt, math.MaxInt, 2056824617},
	} {
		checkMul(t, c.a, c.b, c.want)
		checkMul(t, c.b, c.a, c.want)
	}
}

func TestMulPOfAllFactorsOfNote(t *testing.T) {
	for _, a := range factorsOfNote() {
		for _, b := range factorsOfNote() {
			checkMul(t, a, b, mulLike(a, b))
		}
	}
}

func TestPowPOfFixedNumbers(t *testing.T) {
	for _, c := range []struct{ b, e, want int }{
		{1, 1, 1},
		{1, impl.Prime, 1},
		{2, 1, 2},
		{2, 10, 1024},
		{2, 30, 1073741824},
		{2, 31, 69},
		{2, 32, 138},
		{2, impl.Order, impl.Prime - 1},
		{2, impl.Prime - 2, 1073741790},
		{2, impl.Prime - 1, 1},
		{2, impl.Prime, 2},
		{3, impl.Order, 1},
		{3, impl.Prime, 3},
		{4, 3, 64},
		{4, impl.Order - 1, 536870895},
		{4, impl.Order, 1},
		{4, impl.Order + 1, 4},
		{123456789, 987654321, 675243921},
		{987654321, 123456789, 1032128479},
		{impl.Prime - 1, 1, impl.Prime - 1},
		{impl.Prime - 1, 2, 1},
		{impl.Prime - 1, impl.Order, impl.Prime - 1},
		{impl.Prime - 1, impl.Prime - 1, 1},
		{impl.Prime - 1, impl.Prime, impl.Prime - 1},
		{impl.Prime + 1, impl.Prime, 1},
		{impl.Prime + 2, 5, 32},
		{-1, 1, impl.Prime - 1},
		{-1, impl.Prime, impl.Prime - 1},
		{-2, 3, impl.Prime - 8},
		{math.MinInt, 1, 2147474057},
		{math.MinInt, 2, 90668484},
		{math.MinInt, impl.Prime, 2147474057},
		{math.MaxInt, 1, 9521},
		{math.MaxInt, 2, 90649441},
		{math.MaxInt, impl.Prime, 9521},
	} {
		checkPow(t, c.b, c.e, c.want)
	}
}

func TestPowersOfNought(t *testing.T) {
	for _, b := range []int{0, impl.Prime, -impl.Prime, 2 * impl.Prime, -2 * impl.Prime, impl.Order * impl.Prime} {
		checkPow(t, b, 0, 1)
		for _, e := range powersOfNote()[1:17] {
			checkPow(t, b, e, 0)
		}
	}
}

func TestPowersToNought(t *testing.T) {
	for _, b := range factorsOfNote() {
		checkPow(t, b, 0, 1)
	}
}

// To Prime every number is itself again, as Prime is one.
func TestPowersToPrime(t *testing.T) {
	for _, b := range factorsOfNote() {
		checkPow(t, b, impl.Prime, mulLike(b, 1))
	}
}

func TestPowPOfAllOfNote(t *testing.T) {
	for _, b := range factorsOfNote() {
		for _, e := range powersOfNote() {
			checkPow(t, b, e, powLike(b, e))
		}
	}
}

func TestPowPRefuses(t *testing.T) {
	for _, b := range append([]int{0, 1, impl.Base}, factorsOfNote()...) {
		for _, e := range powersOutside() {
			checkPow(t, b, e, 0)
		}
	}
}

func TestPowersOfASumAreProductsOfPowers(t *testing.T) {
	for _, b := range append([]int{impl.Base}, factorsOfNote()...) {
		for _, e := range powersOfNote() {
			for _, f := range powersOfNote() {
				if e+f <= impl.Prime {
					checkPow(t, b, e+f, impl.MulP(impl.PowP(b, e), impl.PowP(b, f)))
				}
			}
		}
	}
}

func TestPowersOfAPowerArePowersOfTheProduct(t *testing.T) {
	for _, b := range append([]int{impl.Base}, factorsOfNote()...) {
		for _, e := range []int{0, 1, 2, 3, 100, 46340, 46341} {
			for _, f := range []int{0, 1, 2, 3, 99, 46340} {
				checkPow(t, impl.PowP(b, e), f, impl.PowP(b, e*f))
			}
		}
	}
	for _, e := range powersOfNote() {
		for _, f := range powersOfNote() {
			product := new(big.Int).Mul(big.NewInt(int64(e)), big.NewInt(int64(f)))
			rest := int(product.Mod(product, big.NewInt(impl.Order)).Int64())
			checkPow(t, impl.PowP(impl.Base, e), f, impl.PowP(impl.Base, rest))
		}
	}
}

func TestPowersOfBaseAreInTheGroup(t *testing.T) {
	exponents := powersOfNote()
	for e := range 2000 {
		exponents = append(exponents, e)
	}
	for _, e := range exponents {
		y := impl.PowP(impl.Base, e)
		if got, want := impl.InGroup(y), e%impl.Order != 0; got != want {
			t.Errorf("InGroup of Base to the %d (%d) = %v; want %v", e, y, got, want)
		}
	}
}

func TestInGroupOfFixedNumbers(t *testing.T) {
	for _, y := range []int{3, 4, 5, 7, 9, 11, 12, 15, 16, 17, 64, 138, 536870895} {
		if !impl.InGroup(y) {
			t.Errorf("InGroup(%d) is false", y)
		}
	}
	for _, y := range []int{0, 1, 2, 6, 8, 10, 13, 14, 18, 69, impl.Prime - 1, impl.Prime, impl.Prime + 1, impl.Prime + 3, impl.Prime + 4, 2*impl.Prime + 4, -1, -4, 4 - impl.Prime, 1 - impl.Prime, math.MinInt, math.MaxInt} {
		if impl.InGroup(y) {
			t.Errorf("InGroup(%d) is true", y)
		}
	}
}

// Of a number and its opposite one is in the group, as -1 is not.
func TestInGroupIsHalfOfAll(t *testing.T) {
	draw := rand.New(rand.NewSource(33))
	for range 2000 {
		y := 2 + draw.Intn(impl.Prime-3)
		square := big.Jacobi(big.NewInt(int64(y)), big.NewInt(impl.Prime)) == 1
		if got := impl.InGroup(y); got != square {
			t.Errorf("InGroup(%d) = %v; want %v", y, got, square)
		}
		if got := impl.InGroup(impl.Prime - y); got == square {
			t.Errorf("InGroup(%d) = %v; want %v", impl.Prime-y, got, !square)
		}
	}
}

func TestNumberTextWrites(t *testing.T) {
	for _, c := range []struct {
		n    int
		want string
	}{
		{0, "\x00\x00\x00\x00"},
		{1, "\x00\x00\x00\x01"},
		{255, "\x00\x00\x00\xff"},
		{256, "\x00\x00\x01\x00"},
		{258, "\x00\x00\x01\x02"},
		{65535, "\x00\x00\xff\xff"},
		{65536, "\x00\x01\x00\x00"},
		{16777216, "\x01\x00\x00\x00"},
		{16909060, "\x01\x02\x03\x04"},
		{impl.Order, "\x3f\xff\xff\xdd"},
		{impl.Prime, "\x7f\xff\xff\xbb"},
		{2147483648, "\x80\x00\x00\x00"},
		{4294967294, "\xff\xff\xff\xfe"},
		{4294967295, "\xff\xff\xff\xff"},
	} {
		if got := impl.NumberText(c.n); got != c.want {
			t.Errorf("NumberText(%d) = %q; want %q", c.n, got, c.want)
		}
	}
}

func TestNumberTextRefuses(t *testing.T) {
	for _, n := range []int{-1, -2, -256, -4294967295, -4294967296, math.MinInt, 4294967296, 4294967297, 1 << 33, math.MaxInt} {
		if got := impl.NumberText(n); got != "" {
			t.Errorf("NumberText(%d) = %q; want nothing", n, got)
		}
	}
}

func TestNumbersAreReadBack(t *testing.T) {
	list := []int{0, 1, 127, 128, 255, 256, 258, 65535, 65536, 1<<24 - 1, 1 << 24, impl.Order, impl.Prime, 1<<31 - 1, 1 << 31, 4294967294, 4294967295}
	draw := rand.New(rand.NewSource(34))
	for range 2000 {
		list = append(list, int(draw.Uint32()))
	}
	for _, n := range list {
		s := impl.NumberText(n)
		if want := string(binary.BigEndian.AppendUint32(nil, uint32(n))); s != want {
			t.Errorf("NumberText(%d) = %q; want %q", n, s, want)
		}
		if got, ok := impl.ReadNumber(s); !ok || got != n {
			t.Errorf("ReadNumber(%q) = %d, %v; want %d", s, got, ok, n)
		}
	}
}

func TestReadNumberRefuses(t *testing.T) {
	for _, s := range []string{"", "\x00", "a", "\x00\x00", "\x00\x00\x00", "abc", "\x00\x00\x00\x00\x00", "abcde", "\xff\xff\xff\xff\xff", "\x00\x00\x00\x00\x00\x00\x00\x01", "a text of many bytes"} {
		if n, ok := impl.ReadNumber(s); ok || n != 0 {
			t.Errorf("ReadNumber(%q) = %d, %v; want 0 and false", s, n, ok)
		}
	}
}
