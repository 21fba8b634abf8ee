package tests

import (
	"crypto/hkdf"
	"crypto/hmac"
	"crypto/sha256"
	"math"
	"math/rand"
	"strings"
	"testing"

	"loop.example/g00193/impl"
)

const mostExpanded = 8160

// keySizesOfNote are on both sides of a block's end, and of two blocks' end.
func keySizesOfNote() []int {
	return []int{0, 1, 2, 31, 32, 33, 63, 64, 65, 66, 96, 127, 128, 129, 1000}
}

// expandedOfNote are on both sides of where a sum of an expansion ends.
func expandedOfNote() []int {
	return []int{0, 1, 2, 30, 31, 32, 33, 34, 63, 64, 65, 95, 96, 97, 128, 1000, 4096, 8127, 8128, 8129, 8159, mostExpanded}
}

func expandedOutside() []int {
	return []int{-1, -2, -31, -32, -mostExpanded, math.MinInt, math.MinInt + 1, mostExpanded + 1, mostExpanded + 2, 8191, 8192, 8193, 1 << 16, 1 << 32, 1<<32 + 1, math.MaxInt - 1, math.MaxInt}
}

func macLike(key, s string) string {
	mac := hmac.New(sha256.New, []byte(key))
	mac.Write([]byte(s))
	return string(mac.Sum(nil))
}

func expandLike(t *testing.T, key, info string, n int) string {
	t.Helper()
	out, err := hkdf.Expand(sha256.New, []byte(key), info, n)
	if err != nil {
		t.Fatal(err)
	}
	return string(out)
}

func checkMac(t *testing.T, key, s, want string) {
	t.Helper()
	if got := impl.MacOf(key, s); got != want {
		t.Errorf("MacOf(%.20q of %d bytes, %.20q of %d bytes) = %x; want %x", key, len(key), s, len(s), got, want)
	}
}

func checkExpand(t *testing.T, key, info string, n int, want string) {
	t.Helper()
	if got, ok := impl.Expand(key, info, n); got != want || !ok {
		t.Errorf("Expand(%.20q of %d bytes, %.20q of %d bytes, %d) = %x, %v; want %x, true", key, len(key), info, len(info), n, got, ok, want)
	}
}

func checkSame(t *testing.T, a, b string, want bool) {
	t.Helper()
	if got := impl.SameMac(a, b); got != want {
		t.Errorf("SameMac(%x, %x) = %v; want %v", a, b, got, want)
	}
	if got := impl.SameMac(b, a); got != want {
		t.Errorf("SameMac(%x, %x) = %v; want %v", b, a, got, want)
	}
}

func TestMacsOfFixedTexts(t *testing.T) {
	for _, c := range []struct{ key, text, want string }{
		{"", "", "b613679a0814d9ec772f95d778c35fc5ff1697c493715653c6c712144292c5ad"},
		{"key", "The quick brown fox jumps over the lazy dog", "f7bc83f430538424b13298e6aa6fb143ef4d59a14946175997479dbc2d1a3cd8"},
		{strings.Repeat("\x0b", 20), "Hi There", "b0344c61d8db38535ca8afceaf0bf12b881dc200c9833da726e9376c2e32cff7"},
		{"Jefe", "what do ya want for nothing?", "5bdcc146bf60754e6a042426089575c75a003f089d2739839dec58b964ec3843"},
		{strings.Repeat("\xaa", 20), strings.Repeat("\xdd", 50), "773ea91e36800e46854db8ebd09181a72959098b3ef8c122d9635514ced565fe"},
		{"\x01\x02\x03\x04\x05\x06\x07\x08\x09\x0a\x0b\x0c\x0d\x0e\x0f\x10\x11\x12\x13\x14\x15\x16\x17\x18\x19", strings.Repeat("\xcd", 50), "82558a389a443c0ea4cc819899f2083a85f0faa3e578f8077a2e3ff46729665b"},
		{strings.Repeat("\xaa", 131), "Test Using Larger Than Block-Size Key - Hash Key First", "60e431591ee0b67f0d8a26aacbf5b77f8e0bc6213728c5140546040f0ee37f54"},
		{strings.Repeat("\xaa", 131), "This is a test using a larger than block-size key and a larger than block-size data. The key needs to be hashed before being used by the HMAC algorithm.", "9b09ffa71b942fcb27635fbcd5b0e944bfdc63644f0713938a7f51535c3a35e2"},
	} {
		checkMac(t, c.key, c.text, unhexed(t, c.want))
	}
}

func TestMacsOfFixedKeyLengths(t *testing.T) {
	for _, c := range []struct {
		size           int
		ofNothing, abc string
	}{
		{0, "b613679a0814d9ec772f95d778c35fc5ff1697c493715653c6c712144292c5ad", "fd7adb152c05ef80dccf50a1fa4c05d5a3ec6da95575fc312ae7c5d091836351"},
		{1, "3acdaa86b3d73e8d18b7019d3f520000531a23db3b6dda7a94ad28db61a9008c", "b4ffe67d267d9eb19f81ccd6ffcde1443294d00892d5b648f03e590b56250ced"},
		{63, "783cf4c2c285aa5f6de2e985a243347b9a78476a6747ca5b0f16e7c9e6ab6f6b", "0a261b1a2941dfb294b904f925c4fafa1746eaa1f1d2318964ab2650b8908777"},
		{64, "b389ef8fc24e40e35b42b70221b466916836a241257699d090bc736b8ad21b98", "6608ac82dca1cb1fddbb5d81e3d9877642b744f565cd9697ac27daa250c80d28"},
		{65, "e400297d15af5719b8ef44afd790a1d705a4a36e4f49b69b4015c0ed86bf607f", "c0d2f0e7f578e80e4996cf2ffb922ea70fe1094e693f2cd75bbba0281add9da5"},
		{128, "6bd6e376b77feb2b40c9315db31f00f30dc31aed62efd705e88e5d54ae36474e", "0c4848880b965d427100cd3d4aa0c4520631a73daafa6be9b19a06f3e25a93c2"},
		{129, "e44cb664b7b02a78faabc79e273df493b12e9917923924ec99ea157c196f3d85", "927e469e21db94dbfe2ce2a87f1fe59d2ab5dc083d1c7a428223134e9d1d7dc4"},
	} {
		key := strings.Repeat("a", c.size)
		checkMac(t, key, "", unhexed(t, c.ofNothing))
		checkMac(t, key, "abc", unhexed(t, c.abc))
	}
}

func TestMacsAreThoseOfTheLibrary(t *testing.T) {
	for _, size := range keySizesOfNote() {
		key := drawnText(int64(size), size)
		for _, more := range append(sizesOfNote(), 1000, impl.MaxText, impl.MaxText+1) {
			text := drawnText(int64(more), more)
			checkMac(t, key, text, macLike(key, text))
		}
	}
	for size := range 200 {
		key, text := drawnText(int64(size), size), drawnText(int64(200+size), 200-size)
		checkMac(t, key, text, macLike(key, text))
	}
}

// MacOf is what the chapter's own words make of DigestOf.
func TestMacsAreDigestsOfDigests(t *testing.T) {
	draw := rand.New(rand.NewSource(61))
	for range 200 {
		key, text := drawnText(draw.Int63(), draw.Intn(65)), drawnText(draw.Int63(), draw.Intn(200))
		inner, outer := make([]byte, 64), make([]byte, 64)
		for place := range 64 {
			b := byte(0)
			if place < len(key) {
				b = key[place]
			}
			inner[place], outer[place] = b^54, b^92
		}
		checkMac(t, key, text, impl.DigestOf(string(outer)+impl.DigestOf(string(inner)+text)))
	}
}

func TestLongKeysCountAsTheirDigests(t *testing.T) {
	for _, size := range []int{65, 66, 127, 128, 129, 1000, impl.MaxText, 100000} {
		key := drawnText(int64(size), size)
		checkMac(t, key, "abc", impl.MacOf(impl.DigestOf(key), "abc"))
		checkExpand(t, key, "info", 100, expandLike(t, impl.DigestOf(key), "info", 100))
	}
	for _, size := range []int{0, 1, 31, 32, 33, 63, 64} {
		key := drawnText(int64(size), size)
		if impl.MacOf(key, "abc") == impl.MacOf(impl.DigestOf(key), "abc") {
			t.Errorf("a key of %d bytes counts as its digest", size)
		}
	}
}

func TestShortKeysAreFilledWithNoughts(t *testing.T) {
	for size := range 65 {
		key := drawnText(62, size)
		filled := key + strings.Repeat("\x00", 64-size)
		checkMac(t, filled, "abc", impl.MacOf(key, "abc"))
		if impl.MacOf(filled+"\x00", "abc") == impl.MacOf(key, "abc") {
			t.Errorf("a key of %d bytes is filled past 64", size)
		}
	}
}

func TestExpansionsOfFixedTexts(t *testing.T) {
	for _, c := range []struct {
		key, info string
		n         int
		want      string
	}{
		{"k", "i", 0, ""},
		{"k", "i", 1, "76"},
		{"k", "i", 31, "7691e3dfacbba6bd98578f03fcf1096e216a316fea2a7bf493654764b577bb"},
		{"k", "i", 32, "7691e3dfacbba6bd98578f03fcf1096e216a316fea2a7bf493654764b577bb21"},
		{"k", "i", 33, "7691e3dfacbba6bd98578f03fcf1096e216a316fea2a7bf493654764b577bb21f1"},
		{"k", "i", 65, "7691e3dfacbba6bd98578f03fcf1096e216a316fea2a7bf493654764b577bb21f17a9bee6479b5827a356c0db3989e82f31070f16552b58e5422fff82503ef8162"},
		{"", "", 0, ""},
		{"", "", 33, "3d7afb663124ecbf2c953f863d4fc8796eeb2d372b64aad58697ec5264649cdb8e"},
		{unhexed(t, "077709362c2e32df0ddc3f0dc47bba6390b6c73bb50f9c3122ec844ad7c2b3e5"), unhexed(t, "f0f1f2f3f4f5f6f7f8f9"), 42, "3cb25f25faacd57a90434f64d0362f2a2d2d0a90cf1a5a4c5db02d56ecc4c5bf34007208d5b887185865"},
		{unhexed(t, "19ef24a32c717b167f33a91d6f648bdf96596776afdb6377ac434c1c293ccb04"), "", 42, "8da4e775a563c18f715f802a063c5a31b8a11f5c5ee1879ec3454e5f3c738d2d9d201395faa4b61a96c8"},
		{"k", strings.Repeat("i", 31), 65, "3c10749b03b9bda7578a765ab465a434f613d98528abc5ec758f22bde64e23b6948acc145108df8d1e0e9264e5fef3581da2dec99ae8ab4f877caecc1639182f28"},
		{"k", strings.Repeat("i", 63), 65, "36bbdd93f0f9749e54fac8cfb59f292f15403a5ae76f49bcd0b23eb72012cd01123152b2d39306afb6072622d1270e93a8b054c7a4b364bf23acba98ac6c80a024"},
		{"k", strings.Repeat("i", 64), 65, "660046408ac4fbdbb7f41fe4d6580c625a0f1d8e16b82c6698be9cb2c5a5392f917cc1b0c86fcd0aec1b9a36f36028e289afe05861388cb8c440dad1717c91a6b4"},
		{strings.Repeat("a", 64), strings.Repeat("i", 64), 33, "f308ad6ce127d49e5c18a0ed5231dc70d1f3ca83e08fd415a4c723d9f06ca7dae6"},
		{strings.Repeat("a", 65), strings.Repeat("i", 64), 33, "abde465d71268bf3c5fa25f10020aa308c3f9e7446b453088f6d58932a0466a790"},
		{strings.Repeat("a", 128), strings.Repeat("i", 64), 33, "31d6b974555084e0c06b6b3afd6b356485ade998ae91e32236049c003eb2adc467"},
		{strings.Repeat("a", 129), strings.Repeat("i", 64), 33, "557bc6f0c02a31ef0cb653976ed0c5f4fca234c7ee809808f007e8e8ee31210f86"},
	} {
		checkExpand(t, c.key, c.info, c.n, unhexed(t, c.want))
	}
}

func TestTheLongestExpansionOfAFixedText(t *testing.T) {
	got, ok := impl.Expand("k", "i", mostExpanded)
	if len(got) != mostExpanded || !ok {
		t.Fatalf("Expand of %d bytes has %d, %v", mostExpanded, len(got), ok)
	}
	if want := unhexed(t, "b26a2b366681a46fd3702e6b087f6948fe9692b7babc237cfeb9e5b1d076aa6e40a55f250073b598"); got[mostExpanded-40:] != want {
		t.Errorf("its last 40 bytes are %x; want %x", got[mostExpanded-40:], want)
	}
	if want := unhexed(t, "60eadac689a08e300e360c55ab546c697c9ebb65ba4fab46628df436ca0d392f"); digestLike(got) != want {
		t.Errorf("its digest is %x; want %x", digestLike(got), want)
	}
}

func TestExpansionsAreThoseOfTheLibrary(t *testing.T) {
	for _, size := range keySizesOfNote() {
		key := drawnText(int64(size), size)
		for _, more := range []int{0, 1, 30, 31, 32, 62, 63, 64, 65, 128} {
			info := drawnText(int64(100+more), more)
			for _, n := range []int{0, 1, 31, 32, 33, 64, 65, 97} {
				checkExpand(t, key, info, n, expandLike(t, key, info, n))
			}
		}
		for _, n := range expandedOfNote() {
			checkExpand(t, key, "info", n, expandLike(t, key, "info", n))
		}
	}
	info := drawnText(63, impl.MaxText+1)
	checkExpand(t, "key", info, 65, expandLike(t, "key", info, 65))
}

// Each sum of an expansion is of the one ahead of it, info, and its number.
func TestExpansionsAreSumsOfSums(t *testing.T) {
	key, info := drawnText(64, 20), drawnText(65, 20)
	last, want := "", ""
	for count := 1; count <= 255; count++ {
		last = impl.MacOf(key, last+info+string([]byte{byte(count)}))
		want += last
		checkExpand(t, key, info, 32*count, want)
	}
}

func TestALongerExpansionBeginsWithAShorterOne(t *testing.T) {
	for _, size := range keySizesOfNote() {
		key := drawnText(int64(size), size)
		for _, info := range []string{"", "i", drawnText(66, 31), drawnText(67, 64)} {
			longest, ok := impl.Expand(key, info, 200)
			if len(longest) != 200 || !ok {
				t.Fatalf("Expand of 200 bytes has %d, %v", len(longest), ok)
			}
			for n := range 200 {
				checkExpand(t, key, info, n, longest[:n])
			}
		}
	}
	longest, _ := impl.Expand("key", "info", mostExpanded)
	for _, n := range expandedOfNote() {
		checkExpand(t, "key", "info", n, longest[:n])
	}
}

func TestExpansionsOutsideAreRefused(t *testing.T) {
	for _, n := range expandedOutside() {
		for _, key := range []string{"", "k", drawnText(68, 64), drawnText(69, 65)} {
			for _, info := range []string{"", "i", drawnText(70, 64)} {
				if got, ok := impl.Expand(key, info, n); got != "" || ok {
					t.Errorf("Expand(%.20q, %.20q, %d) = %d bytes, %v; want nothing, false", key, info, n, len(got), ok)
				}
			}
		}
	}
}

func TestSameMacOfSameTexts(t *testing.T) {
	for _, size := range []int{0, 1, 2, 16, 31, 32, 33, 64, 1000, impl.MaxText + 1} {
		text := drawnText(int64(size), size)
		checkSame(t, text, strings.Clone(text), true)
	}
	checkSame(t, impl.MacOf("k", "text"), impl.MacOf("k", "text"), true)
	checkSame(t, impl.MacOf("k", "text"), impl.MacOf("l", "text"), false)
	checkSame(t, impl.MacOf("k", "text"), impl.MacOf("k", "texts"), false)
}

func TestSameMacTellsEveryBit(t *testing.T) {
	for _, size := range []int{1, 2, 16, 31, 32, 33} {
		text := drawnText(int64(71+size), size)
		for place := range size {
			for bit := range 8 {
				other := []byte(text)
				other[place] ^= 1 << bit
				checkSame(t, text, string(other), false)
			}
		}
	}
}

// Differences that cancel out in a sum or an exclusive or count as well.
func TestSameMacTellsTwoBytes(t *testing.T) {
	checkSame(t, "ab", "ba", false)
	checkSame(t, "aa", "bb", false)
	checkSame(t, "\x00\xff", "\xff\x00", false)
	checkSame(t, "\x00\x00", "\x80\x80", false)
	checkSame(t, "abc", "cba", false)
}

func TestSameMacOfOtherLengths(t *testing.T) {
	text := drawnText(72, 33)
	for size := range 33 {
		checkSame(t, text[:size], text, false)
		checkSame(t, text[:size], text[:size+1], false)
		checkSame(t, strings.Repeat("\x00", size), strings.Repeat("\x00", size+1), false)
		checkSame(t, "", text[:size+1], false)
	}
}
