package tests

import (
	"encoding/binary"
	"math"
	"math/rand"
	"net/netip"
	"strconv"
	"strings"
	"testing"

	"loop.example/g00193/impl"
)

const (
	maxAddr = 4294967295
	maxLen  = 32
)

func addrsOfNote() []int {
	list := []int{0, 1, 2, 9, 10, 99, 100, 127, 128, 254, 255, 256, 257, 65535, 65536, 16777215, 16777216, 167772418, 1<<31 - 1, 1 << 31, 1<<31 + 1, 3232235777, maxAddr - 256, maxAddr - 1, maxAddr}
	for bit := range maxLen {
		list = append(list, 1<<bit, maxAddr-1<<bit)
	}
	draw := rand.New(rand.NewSource(121))
	for range 60 {
		list = append(list, int(draw.Uint32()))
	}
	return list
}

// addrsOutside have among them such as are an address in their last 32 bits.
func addrsOutside() []int {
	return []int{-1, -2, -256, -167772418, -maxAddr, -maxAddr - 1, -maxAddr - 2, math.MinInt, math.MinInt + 1, math.MinInt + 167772418, maxAddr + 1, maxAddr + 2, maxAddr + 1 + 167772418, 1 << 33, 1 << 62, math.MaxInt - 1, math.MaxInt}
}

func lensOutside() []int {
	return []int{-1, -2, -31, -32, -33, -64, math.MinInt, math.MinInt + 1, math.MinInt + 32, 33, 34, 63, 64, 65, 96, 256, 1 << 32, 1<<32 + 24, math.MaxInt - 1, math.MaxInt}
}

func libraryAddr(a int) netip.Addr {
	var four [4]byte
	binary.BigEndian.PutUint32(four[:], uint32(a))
	return netip.AddrFrom4(four)
}

func numberOfAddr(addr netip.Addr) int {
	four := addr.As4()
	return int(binary.BigEndian.Uint32(four[:]))
}

// readAddrLike is of the library, which knows addresses of another kind, too.
func readAddrLike(text string) (int, bool) {
	addr, err := netip.ParseAddr(text)
	if err != nil || !addr.Is4() {
		return 0, false
	}
	return numberOfAddr(addr), true
}

// readPrefixLike is of the library, to which the last bits are all the same.
func readPrefixLike(text string) (impl.Prefix, bool) {
	p, err := netip.ParsePrefix(text)
	if err != nil || !p.Addr().Is4() || p != p.Masked() {
		return impl.Prefix{}, false
	}
	return impl.Prefix{Addr: numberOfAddr(p.Addr()), Len: p.Bits()}, true
}

// sameBits holds when the first n bits of both are the same, told one by one.
func sameBits(a, b, n int) bool {
	for place := range n {
		bit := 1 << (maxLen - 1 - place)
		if a&bit != b&bit {
			return false
		}
	}
	return true
}

// prefixLike keeps the first n bits of an address, one by one.
func prefixLike(a, n int) impl.Prefix {
	p := impl.Prefix{Len: n}
	for place := range n {
		p.Addr |= a & (1 << (maxLen - 1 - place))
	}
	return p
}

func lastOf(p impl.Prefix) int {
	return p.Addr + 1<<(maxLen-p.Len) - 1
}

func checkAddr(t *testing.T, a int, text string) {
	t.Helper()
	if !impl.AddrOk(a) {
		t.Errorf("AddrOk(%d) = false; want true", a)
	}
	if got := impl.AddrText(a); got != text {
		t.Errorf("AddrText(%d) = %q; want %q", a, got, text)
	}
	if got, ok := impl.ReadAddr(text); got != a || !ok {
		t.Errorf("ReadAddr(%q) = %d, %v; want %d, true", text, got, ok, a)
	}
}

func checkNoAddr(t *testing.T, text string) {
	t.Helper()
	if got, ok := impl.ReadAddr(text); got != 0 || ok {
		t.Errorf("ReadAddr(%.40q of %d bytes) = %d, %v; want 0, false", text, len(text), got, ok)
	}
}

func checkReadAddr(t *testing.T, text string) {
	t.Helper()
	want, right := readAddrLike(text)
	if got, ok := impl.ReadAddr(text); got != want || ok != right {
		t.Errorf("ReadAddr(%q) = %d, %v; want %d, %v", text, got, ok, want, right)
	}
}

func checkPrefix(t *testing.T, p impl.Prefix, text string) {
	t.Helper()
	if !impl.PrefixOk(p) {
		t.Errorf("PrefixOk(%v) = false; want true", p)
	}
	if got, ok := impl.PrefixText(p); got != text || !ok {
		t.Errorf("PrefixText(%v) = %q, %v; want %q, true", p, got, ok, text)
	}
	if got, ok := impl.ReadPrefix(text); got != p || !ok {
		t.Errorf("ReadPrefix(%q) = %v, %v; want %v, true", text, got, ok, p)
	}
}

// checkWrongPrefix asks with the addresses that a prefix like this might take.
func checkWrongPrefix(t *testing.T, p impl.Prefix) {
	t.Helper()
	if impl.PrefixOk(p) {
		t.Errorf("PrefixOk(%v) = true; want false", p)
	}
	if got, ok := impl.PrefixText(p); got != "" || ok {
		t.Errorf("PrefixText(%v) = %q, %v; want nothing, false", p, got, ok)
	}
	for _, a := range []int{p.Addr, p.Addr & maxAddr, p.Addr &^ 255, 0, 1, 167772418, maxAddr, -1, maxAddr + 1} {
		checkIn(t, p, a, false)
	}
}

func checkNoPrefix(t *testing.T, text string) {
	t.Helper()
	if got, ok := impl.ReadPrefix(text); got != (impl.Prefix{}) || ok {
		t.Errorf("ReadPrefix(%.40q of %d bytes) = %v, %v; want zeros, false", text, len(text), got, ok)
	}
}

func checkReadPrefix(t *testing.T, text string) {
	t.Helper()
	want, right := readPrefixLike(text)
	if got, ok := impl.ReadPrefix(text); got != want || ok != right {
		t.Errorf("ReadPrefix(%q) = %v, %v; want %v, %v", text, got, ok, want, right)
	}
}

func checkPrefixOf(t *testing.T, a, n int, want impl.Prefix) {
	t.Helper()
	if got, ok := impl.PrefixOf(a, n); got != want || !ok {
		t.Errorf("PrefixOf(%d, %d) = %v, %v; want %v, true", a, n, got, ok, want)
	}
}

func checkNoPrefixOf(t *testing.T, a, n int) {
	t.Helper()
	if got, ok := impl.PrefixOf(a, n); got != (impl.Prefix{}) || ok {
		t.Errorf("PrefixOf(%d, %d) = %v, %v; want zeros, false", a, n, got, ok)
	}
}

func checkIn(t *testing.T, p impl.Prefix, a int, want bool) {
	t.Helper()
	if got := impl.InPrefix(p, a); got != want {
		t.Errorf("InPrefix(%v, %d) = %v; want %v", p, a, got, want)
	}
}

func TestAddrsOfFixedTexts(t *testing.T) {
	for _, c := range []struct {
		a    int
		text string
	}{
		{0, "0.0.0.0"},
		{1, "0.0.0.1"},
		{9, "0.0.0.9"},
		{10, "0.0.0.10"},
		{99, "0.0.0.99"},
		{100, "0.0.0.100"},
		{255, "0.0.0.255"},
		{256, "0.0.1.0"},
		{65535, "0.0.255.255"},
		{65536, "0.1.0.0"},
		{16777215, "0.255.255.255"},
		{16777216, "1.0.0.0"},
		{16909060, "1.2.3.4"},
		{67305985, "4.3.2.1"},
		{151653131, "9.10.11.11"},
		{167772418, "10.0.1.2"},
		{1684300900, "100.100.100.100"},
		{2130706433, "127.0.0.1"},
		{2147483647, "127.255.255.255"},
		{2147483648, "128.0.0.0"},
		{3232235777, "192.168.1.1"},
		{4278190080, "255.0.0.0"},
		{maxAddr - 1, "255.255.255.254"},
		{maxAddr, "255.255.255.255"},
	} {
		checkAddr(t, c.a, c.text)
	}
}

func TestAddrsComeBackFromTheirTexts(t *testing.T) {
	for _, a := range addrsOfNote() {
		checkAddr(t, a, libraryAddr(a).String())
	}
	draw := rand.New(rand.NewSource(122))
	for range 20000 {
		a := int(draw.Uint32())
		checkAddr(t, a, libraryAddr(a).String())
	}
}

func TestEachByteStandsAtEachPlaceOfAnAddr(t *testing.T) {
	for b := range 256 {
		for _, others := range []int{0, 9, 10, 99, 100, 255} {
			for place := range 4 {
				a, parts := 0, make([]string, 4)
				for part := range parts {
					worth := others
					if part == place {
						worth = b
					}
					a = a*256 + worth
					parts[part] = strconv.Itoa(worth)
				}
				checkAddr(t, a, strings.Join(parts, "."))
			}
		}
	}
}

func TestAddrsOutsideAreNotRight(t *testing.T) {
	for _, a := range addrsOutside() {
		if impl.AddrOk(a) {
			t.Errorf("AddrOk(%d) = true; want false", a)
		}
		if got := impl.AddrText(a); got != "" {
			t.Errorf("AddrText(%d) = %q; want nothing", a, got)
		}
		for n := range maxLen + 1 {
			checkNoPrefixOf(t, a, n)
			checkIn(t, impl.Prefix{Len: n}, a, false)
			checkIn(t, impl.Prefix{Addr: a, Len: n}, a, false)
			checkIn(t, prefixLike(a, n), a, false)
			checkWrongPrefix(t, impl.Prefix{Addr: a, Len: n})
		}
	}
}

func TestTextsThatAreNoAddr(t *testing.T) {
	for _, text := range []string{
		"", ".", "..", "...", "....", " ", "\x00",
		"1", "1.2", "1.2.3", "1.2.3.4.5", "1.2.3.4.5.6.7.8",
		"1.2.3.", ".1.2.3", "1..2.3", "1.2..3", "1.2.3.4.", ".1.2.3.4", "1..2.3.4", "1.2.3..4",
		"01.2.3.4", "1.02.3.4", "1.2.03.4", "1.2.3.04", "00.0.0.0", "0.0.0.00", "0.00.0.0", "1.2.3.000", "001.2.3.4", "1.2.3.010",
		"256.2.3.4", "1.256.3.4", "1.2.256.4", "1.2.3.256", "257.0.0.0", "0.0.0.260", "0.0.0.300", "999.0.0.0", "0.0.0.1000", "0.0.0.2550",
		"4294967295", "4294967296.0.0.0", "0.0.0.4294967297", "0.0.0.1000000000", "0.0.0.1000000001",
		"0.0.0.18446744073709551616", "0.0.0.18446744073709551617", "18446744073709551621.0.0.0", "0.0.0.340282366920938463463374607431768211456",
		"-1.2.3.4", "1.2.3.-4", "+1.2.3.4", "1.+2.3.4", "-0.0.0.0", "1.2.3.4-", "1.2.3.-",
		" 1.2.3.4", "1.2.3.4 ", "1. 2.3.4", "1 .2.3.4", "1.2.3. ", "1 2 3 4", "1.2.3.4\n", "\t1.2.3.4", "1.2.3.4\x00", "\x001.2.3.4",
		"a.2.3.4", "1.2.3.a", "1.2.3.4a", "a1.2.3.4", "0x1.2.3.4", "1.2.3.0xf", "1e1.0.0.0", "1_0.0.0.0", "ff.0.0.0", "a.b.c.d",
		"1.2.3.4/24", "1.2.3.4/", "/1.2.3.4", "1.2.3.4:80", "1,2,3,4", "1.2.3,4", "1:2:3:4", "::1", "::ffff:1.2.3.4", "1.2.3.4%eth0", "1.2.3/4",
		"1.2.3.4\x80", "\xff1.2.3.4", "1.2\xfe.3.4", "1.2.3.\xff", "\x80.\x80.\x80.\x80", "1.2.3.4\xc3\xa9", "1\xc0\xae2.3.4", "1.2.3\xe2.4",
		// Runes that are figures or stops elsewhere, or in their last byte.
		"\uff11.2.3.4", "1.2.3.\u0664", "\u0130.0.0.0", "1.2.3.\u0131", "1\u012e2.3.4", "1.2.3\uff0e4", "1.2.3\u30024", "\ufffd.2.3.4", "1.2.3.\U00010030", "\ufeff1.2.3.4", "1.2.3.4\u0301",
	} {
		checkNoAddr(t, text)
	}
}

func TestLongTextsAreNoAddr(t *testing.T) {
	const long = 300000
	for _, text := range []string{
		strings.Repeat("1", long),
		strings.Repeat(".", long),
		strings.Repeat("1.", long),
		strings.Repeat("0", long) + ".0.0.0",
		"0.0.0." + strings.Repeat("0", long),
		"1.2.3." + strings.Repeat("9", long),
		"1.2.3." + strings.Repeat("0", long) + "4",
		"1.2.3.4" + strings.Repeat(" ", long),
		strings.Repeat("1.2.3.4", long),
	} {
		checkNoAddr(t, text)
		checkNoPrefix(t, text+"/32")
		checkNoPrefix(t, "0.0.0.0/"+text)
	}
}

func TestOneByteTurnedInAnAddrIsReadAsTheLibraryReads(t *testing.T) {
	for _, text := range []string{"0.0.0.0", "1.2.3.4", "10.0.1.2", "99.100.9.10", "255.255.255.255"} {
		for place := range len(text) {
			checkReadAddr(t, text[:place]+text[place+1:])
			for b := range 256 {
				checkReadAddr(t, text[:place]+string([]byte{byte(b)})+text[place+1:])
			}
		}
		for place := range len(text) + 1 {
			for b := range 256 {
				checkReadAddr(t, text[:place]+string([]byte{byte(b)})+text[place:])
			}
		}
	}
}

func TestAllShortTextsAreReadAsTheLibraryReads(t *testing.T) {
	texts, found := []string{""}, 0
	for range 9 {
		var longer []string
		for _, text := range texts {
			longer = append(longer, text+"0", text+"2", text+".")
		}
		for _, text := range longer {
			checkReadAddr(t, text)
			checkReadPrefix(t, text+"/3")
			if _, ok := impl.ReadAddr(text); ok {
				found++
			}
		}
		texts = longer
	}
	if found == 0 {
		t.Error("no address was among the texts")
	}
}

func TestDrawnTextsAreReadAsTheLibraryReads(t *testing.T) {
	draw := rand.New(rand.NewSource(123))
	parts := []string{"0", "1", "9", "10", "24", "32", "33", "99", "100", "128", "192", "255", "256", "00", "01", "", "-1", " 1", "a"}
	part := func() string {
		// The first ones are right: else hardly any text would be.
		return parts[min(draw.Intn(len(parts)), draw.Intn(len(parts)))]
	}
	for range 100000 {
		text := part() + "." + part() + "." + part() + "." + part()
		checkReadAddr(t, text)
		checkReadPrefix(t, text+"/"+part())
	}
}

func TestPrefixesOfFixedTexts(t *testing.T) {
	for _, c := range []struct {
		p    impl.Prefix
		text string
	}{
		{impl.Prefix{}, "0.0.0.0/0"},
		{impl.Prefix{Len: 1}, "0.0.0.0/1"},
		{impl.Prefix{Len: 9}, "0.0.0.0/9"},
		{impl.Prefix{Len: 10}, "0.0.0.0/10"},
		{impl.Prefix{Len: 31}, "0.0.0.0/31"},
		{impl.Prefix{Len: 32}, "0.0.0.0/32"},
		{impl.Prefix{Addr: 1, Len: 32}, "0.0.0.1/32"},
		{impl.Prefix{Addr: 2, Len: 31}, "0.0.0.2/31"},
		{impl.Prefix{Addr: 1 << 31, Len: 1}, "128.0.0.0/1"},
		{impl.Prefix{Addr: 1 << 31, Len: 32}, "128.0.0.0/32"},
		{impl.Prefix{Addr: 3 << 30, Len: 2}, "192.0.0.0/2"},
		{impl.Prefix{Addr: 167772160, Len: 8}, "10.0.0.0/8"},
		{impl.Prefix{Addr: 167772416, Len: 24}, "10.0.1.0/24"},
		{impl.Prefix{Addr: 167772416, Len: 25}, "10.0.1.0/25"},
		{impl.Prefix{Addr: 167772418, Len: 32}, "10.0.1.2/32"},
		{impl.Prefix{Addr: maxAddr - 1, Len: 31}, "255.255.255.254/31"},
		{impl.Prefix{Addr: maxAddr, Len: 32}, "255.255.255.255/32"},
	} {
		checkPrefix(t, c.p, c.text)
	}
}

func TestPrefixesComeBackFromTheirTexts(t *testing.T) {
	for _, a := range addrsOfNote() {
		for n := range maxLen + 1 {
			p := prefixLike(a, n)
			checkPrefix(t, p, netip.PrefixFrom(libraryAddr(p.Addr), n).String())
		}
	}
}

func TestPrefixesWhoseLastBitsAreNotNought(t *testing.T) {
	for _, a := range addrsOfNote() {
		for n := range maxLen {
			for last := range maxLen - n {
				p := prefixLike(a, n)
				p.Addr |= 1 << last
				checkWrongPrefix(t, p)
				checkNoPrefix(t, libraryAddr(p.Addr).String()+"/"+strconv.Itoa(n))
			}
			all := impl.Prefix{Addr: lastOf(prefixLike(a, n)), Len: n}
			checkWrongPrefix(t, all)
			checkNoPrefix(t, libraryAddr(all.Addr).String()+"/"+strconv.Itoa(n))
		}
	}
}

func TestLensOutsideAreNotRight(t *testing.T) {
	for _, n := range lensOutside() {
		for _, a := range append(addrsOfNote(), addrsOutside()...) {
			checkNoPrefixOf(t, a, n)
			checkWrongPrefix(t, impl.Prefix{Addr: a, Len: n})
			checkIn(t, impl.Prefix{Len: n}, a, false)
		}
		checkNoPrefix(t, "0.0.0.0/"+strconv.Itoa(n))
		checkNoPrefix(t, "255.255.255.255/"+strconv.Itoa(n))
	}
}

func TestTextsThatAreNoPrefix(t *testing.T) {
	for _, text := range []string{
		"", "/", "//", "0", "0/0", "/0", "/24", "24", " ",
		"0.0.0.0", "10.0.1.0", "10.0.1.0/", "10.0.1.0//24", "10.0.1.0/24/", "10.0.1.0/24/24", "/10.0.1.0/24", "10.0.1.0/2/4", "24/10.0.1.0",
		"10.0.1.0/024", "10.0.1.0/00", "0.0.0.0/00", "0.0.0.0/01", "10.0.1.0/0024",
		"0.0.0.0/33", "10.0.1.0/33", "10.0.1.0/34", "10.0.1.0/99", "10.0.1.0/240", "0.0.0.0/256", "0.0.0.0/288", "0.0.0.0/4294967296", "0.0.0.0/4294967320",
		"0.0.0.0/1000000000", "0.0.0.0/1000000001", "0.0.0.0/18446744073709551616", "0.0.0.0/18446744073709551640",
		"10.0.1.0/-1", "10.0.1.0/-24", "0.0.0.0/-0", "10.0.1.0/+24", "0.0.0.0/+0",
		" 10.0.1.0/24", "10.0.1.0 /24", "10.0.1.0/ 24", "10.0.1.0/24 ", "10.0.1.0/24\n", "10.0.1.0/24\x00", "10.0.1.0 24",
		"10.0.1.0/a", "10.0.1.0/24a", "10.0.1.0/0x18", "10.0.1.0/18h", "10.0.1.0/2.4", "10.0.1.0/24.0", "10.0.1.0/255.255.255.0",
		"10.0.1.0\\24", "10.0.1.0:24", "10.0.1.0|24", "10.0.1.0.24",
		"10.0.1/24", "10.0.1.0.0/24", "10.0..0/24", "010.0.1.0/24", "10.0.01.0/24", "256.0.0.0/8", "10.0.1.256/32", "-1.0.0.0/8", "a.0.0.0/8", "::/0",
		"10.0.1.0/\xff", "10.0.1.0/24\x80", "\xff10.0.1.0/24", "10.0.1.0\xc0\xaf24",
		"10.0.1.0/\uff12\uff14", "10.0.1.0\u012f24", "10.0.1.0\uff0f24", "10.0.1.0\u221524", "10.0.1.0/2\u0134",
		"10.0.1.2/24", "10.0.1.1/31", "0.0.0.1/0", "128.0.0.0/0", "255.255.255.255/31", "255.255.255.255/0", "10.0.1.128/24", "10.0.1.0/23", "192.0.0.0/1",
	} {
		checkNoPrefix(t, text)
	}
}

func TestOneByteTurnedInAPrefixIsReadAsTheLibraryReads(t *testing.T) {
	for _, text := range []string{"0.0.0.0/0", "0.0.0.0/32", "10.0.1.0/24", "128.0.0.0/1", "255.255.255.254/31", "255.255.255.255/32"} {
		for place := range len(text) {
			checkReadPrefix(t, text[:place]+text[place+1:])
			for b := range 256 {
				checkReadPrefix(t, text[:place]+string([]byte{byte(b)})+text[place+1:])
			}
		}
		for place := range len(text) + 1 {
			for b := range 256 {
				checkReadPrefix(t, text[:place]+string([]byte{byte(b)})+text[place:])
			}
		}
	}
}

func TestPrefixOfFixedAddrs(t *testing.T) {
	for _, c := range []struct {
		a, n, want int
	}{
		{0, 0, 0},
		{0, 32, 0},
		{maxAddr, 0, 0},
		{maxAddr, 1, 2147483648},
		{maxAddr, 8, 4278190080},
		{maxAddr, 31, 4294967294},
		{maxAddr, 32, maxAddr},
		{1, 0, 0},
		{1, 31, 0},
		{1, 32, 1},
		{1 << 31, 0, 0},
		{1 << 31, 1, 1 << 31},
		{1<<31 - 1, 1, 0},
		{167772418, 0, 0},
		{167772418, 4, 0},
		{167772418, 5, 134217728},
		{167772418, 8, 167772160},
		{167772418, 23, 167772160},
		{167772418, 24, 167772416},
		{167772418, 30, 167772416},
		{167772418, 31, 167772418},
		{167772418, 32, 167772418},
	} {
		checkPrefixOf(t, c.a, c.n, impl.Prefix{Addr: c.want, Len: c.n})
	}
}

func TestAPrefixHasWhoItIsOf(t *testing.T) {
	for _, a := range addrsOfNote() {
		for n := range maxLen + 1 {
			want := prefixLike(a, n)
			checkPrefixOf(t, a, n, want)
			checkIn(t, want, a, true)
			if !impl.PrefixOk(want) {
				t.Errorf("PrefixOk(%v) = false; want true", want)
			}
			masked, err := libraryAddr(a).Prefix(n)
			if err != nil || numberOfAddr(masked.Addr()) != want.Addr {
				t.Errorf("the library's prefix of %d and %d is %v, %v", a, n, masked, err)
			}
		}
	}
}

func TestInPrefixTellsByTheFirstBits(t *testing.T) {
	addrs := addrsOfNote()
	for _, of := range addrs {
		for n := range maxLen + 1 {
			p := prefixLike(of, n)
			for _, a := range addrs {
				checkIn(t, p, a, sameBits(of, a, n))
			}
			for bit := range maxLen {
				checkIn(t, p, of^1<<bit, maxLen-1-bit >= n)
			}
		}
	}
}

func TestTheEndsOfAPrefix(t *testing.T) {
	for _, of := range addrsOfNote() {
		for n := range maxLen + 1 {
			p := prefixLike(of, n)
			first, last := p.Addr, lastOf(p)
			checkIn(t, p, first, true)
			checkIn(t, p, last, true)
			checkIn(t, p, first-1, false)
			checkIn(t, p, last+1, false)
			checkPrefixOf(t, first, n, p)
			checkPrefixOf(t, last, n, p)
			if last < maxAddr {
				checkPrefixOf(t, last+1, n, impl.Prefix{Addr: last + 1, Len: n})
			}
			if first > 0 {
				checkPrefixOf(t, first-1, n, prefixLike(first-1, n))
			}
		}
	}
}

func TestEachAddrOfAPrefixHasThatPrefix(t *testing.T) {
	for _, of := range []int{0, 1 << 31, 167772418, maxAddr} {
		for n := 20; n <= maxLen; n++ {
			p := prefixLike(of, n)
			for a := p.Addr; a <= lastOf(p); a++ {
				checkPrefixOf(t, a, n, p)
				checkIn(t, p, a, true)
			}
		}
	}
	draw := rand.New(rand.NewSource(124))
	for range 20000 {
		n := draw.Intn(maxLen + 1)
		p := prefixLike(int(draw.Uint32()), n)
		a := p.Addr + draw.Intn(1<<(maxLen-n))
		checkPrefixOf(t, a, n, p)
		checkIn(t, p, a, true)
		other := int(draw.Uint32())
		checkIn(t, p, other, other >= p.Addr && other <= lastOf(p))
	}
}

func TestAPrefixOfNoBitsHasEveryAddr(t *testing.T) {
	for _, a := range addrsOfNote() {
		checkIn(t, impl.Prefix{}, a, true)
		checkPrefixOf(t, a, 0, impl.Prefix{})
		if a != 0 {
			checkWrongPrefix(t, impl.Prefix{Addr: a})
		}
	}
	for _, a := range addrsOutside() {
		checkIn(t, impl.Prefix{}, a, false)
		checkWrongPrefix(t, impl.Prefix{Addr: a})
	}
}

func TestAPrefixOfAllBitsHasOneAddr(t *testing.T) {
	for _, of := range addrsOfNote() {
		p := impl.Prefix{Addr: of, Len: maxLen}
		checkPrefixOf(t, of, maxLen, p)
		for _, a := range append(addrsOfNote(), addrsOutside()...) {
			checkIn(t, p, a, a == of)
		}
	}
}

func TestRefusedAddrsLeaveNothingBehind(t *testing.T) {
	for range 3 {
		checkNoAddr(t, "10.0.1.256")
		checkNoPrefix(t, "10.0.1.2/24")
		checkNoPrefixOf(t, -1, 24)
		checkWrongPrefix(t, impl.Prefix{Addr: 167772418, Len: 24})
		checkAddr(t, 167772418, "10.0.1.2")
		checkPrefix(t, impl.Prefix{Addr: 167772416, Len: 24}, "10.0.1.0/24")
		checkPrefixOf(t, 167772418, 24, impl.Prefix{Addr: 167772416, Len: 24})
		checkIn(t, impl.Prefix{Addr: 167772416, Len: 24}, 167772418, true)
	}
}
