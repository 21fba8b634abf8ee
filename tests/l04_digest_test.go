package tests

import (
	"crypto/sha256"
	"encoding"
	"encoding/binary"
	"encoding/hex"
	"math"
	"math/rand"
	"strings"
	"testing"

	"loop.example/g00193/impl"
)

const firstStateHex = "6a09e667bb67ae853c6ef372a54ff53a510e527f9b05688c1f83d9ab5be0cd19"

// sizesOfNote are on both sides of where a block, or what fills one, ends.
func sizesOfNote() []int {
	return []int{0, 1, 2, 54, 55, 56, 57, 62, 63, 64, 65, 118, 119, 120, 121, 127, 128, 129, 183, 184, 191, 192, 193}
}

func drawnText(seed int64, size int) string {
	text := make([]byte, size)
	rand.New(rand.NewSource(seed)).Read(text)
	return string(text)
}

func unhexed(t *testing.T, figures string) string {
	t.Helper()
	text, err := hex.DecodeString(figures)
	if err != nil {
		t.Fatal(err)
	}
	return string(text)
}

func digestLike(s string) string {
	digest := sha256.Sum256([]byte(s))
	return string(digest[:])
}

// goOnLike sets the library's hash up with what h has, gives it s, and tells
// what it then has and its digest; h must be right.
func goOnLike(t *testing.T, h impl.Hasher, s string) (impl.Hasher, string) {
	t.Helper()
	kept := append([]byte("sha\x03"), h.State...)
	kept = append(kept, h.Rest...)
	kept = append(kept, make([]byte, 64-len(h.Rest))...)
	kept = binary.BigEndian.AppendUint64(kept, uint64(h.Count))
	hash := sha256.New()
	if err := hash.(encoding.BinaryUnmarshaler).UnmarshalBinary(kept); err != nil {
		t.Fatal(err)
	}
	hash.Write([]byte(s))
	now, err := hash.(encoding.BinaryMarshaler).MarshalBinary()
	if err != nil {
		t.Fatal(err)
	}
	count := h.Count + len(s)
	return impl.Hasher{State: string(now[4:36]), Rest: string(now[36 : 36+count%64]), Count: count}, string(hash.Sum(nil))
}

// checkGoesOn holds HashMore and HashEnd against the library's, and answers
// what HashMore did.
func checkGoesOn(t *testing.T, h impl.Hasher, s string) impl.Hasher {
	t.Helper()
	want, digest := goOnLike(t, h, s)
	got := impl.HashMore(h, s)
	if got != want {
		t.Errorf("HashMore(%x, %d bytes) = %x; want %x", h, len(s), got, want)
	}
	if !impl.HasherOk(got) {
		t.Errorf("HashMore(%x, %d bytes) is not right", h, len(s))
	}
	if end := impl.HashEnd(got); end != digest {
		t.Errorf("HashEnd(%x) = %x; want %x", got, end, digest)
	}
	return got
}

func checkParts(t *testing.T, parts ...string) {
	t.Helper()
	h := impl.HasherNew()
	for _, part := range parts {
		h = impl.HashMore(h, part)
	}
	text := strings.Join(parts, "")
	if !impl.HasherOk(h) || h.Count != len(text) || h.Rest != text[len(text)-len(text)%64:] {
		t.Errorf("%d parts of %d bytes come to %x", len(parts), len(text), h)
	}
	if got, want := impl.HashEnd(h), digestLike(text); got != want || impl.DigestOf(text) != want {
		t.Errorf("%d parts of %d bytes: HashEnd is %x, DigestOf %x; want %x", len(parts), len(text), got, impl.DigestOf(text), want)
	}
}

func TestDigestsOfFixedTexts(t *testing.T) {
	for _, c := range []struct{ text, want string }{
		{"", "e3b0c44298fc1c149afbf4c8996fb92427ae41e4649b934ca495991b7852b855"},
		{"abc", "ba7816bf8f01cfea414140de5dae2223b00361a396177a9cb410ff61f20015ad"},
		{"\x00", "6e340b9cffb37a989ca544e6bb780a2c78901d3fb33738768511a30617afa01d"},
		{"\x80", "76be8b528d0075f7aae98d6fa57a6d3c83ae480a8469e668d7b0af968995ac71"},
		{"\xff", "a8100ae6aa1940d0b663bb31cd466142ebbdbd5187131b92d93818987832eb89"},
		{strings.Repeat("\x00", 64), "f5a5fd42d16a20302798ef6ed309979b43003d2320d9f0e8ea9831a92759fb4b"},
		{strings.Repeat("\xff", 55), "aadaed00a3c5fbb8072ae7f1984ba8199fbe5272de427d11eaf31583af37db51"},
		{strings.Repeat("\xff", 64), "8667e718294e9e0df1d30600ba3eeb201f764aad2dad72748643e4a285e1d1f7"},
		{"abcdbcdecdefdefgefghfghighijhijkijkljklmklmnlmnomnopnopq", "248d6a61d20638b8e5c026930c3e6039a33ce45964ff2167f6ecedd419db06c1"},
		{"abcdefghbcdefghicdefghijdefghijkefghijklfghijklmghijklmnhijklmnoijklmnopjklmnopqklmnopqrlmnopqrsmnopqrstnopqrstu", "cf5b16a778af8380036ce59e7b0492370b249b11e8f07a51afac45037afee9d1"},
	} {
		checkDigest(t, c.text, unhexed(t, c.want))
	}
}

func checkDigest(t *testing.T, text, want string) {
	t.Helper()
	if got := impl.DigestOf(text); got != want {
		t.Errorf("DigestOf(%.20q of %d bytes) = %x; want %x", text, len(text), got, want)
	}
	if got := impl.HashEnd(impl.HashMore(impl.HasherNew(), text)); got != want {
		t.Errorf("HashEnd of %.20q of %d bytes = %x; want %x", text, len(text), got, want)
	}
}

func TestDigestsOfFixedLengths(t *testing.T) {
	for _, c := range []struct {
		size int
		want string
	}{
		{1, "ca978112ca1bbdcafac231b39a23dc4da786eff8147c4e72b9807785afee48bb"},
		{55, "9f4390f8d30c2dd92ec9f095b65e2b9ae9b0a925a5258e241c9f1e910f734318"},
		{56, "b35439a4ac6f0948b6d6f9e3c6af0f5f590ce20f1bde7090ef7970686ec6738a"},
		{57, "f13b2d724659eb3bf47f2dd6af1accc87b81f09f59f2b75e5c0bed6589dfe8c6"},
		{63, "7d3e74a05d7db15bce4ad9ec0658ea98e3f06eeecf16b4c6fff2da457ddc2f34"},
		{64, "ffe054fe7ae0cb6dc65c3af9b61d5209f439851db43d0ba5997337df154668eb"},
		{65, "635361c48bb9eab14198e76ea8ab7f1a41685d6ad62aa9146d301d4f17eb0ae0"},
		{119, "31eba51c313a5c08226adf18d4a359cfdfd8d2e816b13f4af952f7ea6584dcfb"},
		{120, "2f3d335432c70b580af0e8e1b3674a7c020d683aa5f73aaaedfdc55af904c21c"},
		{121, "e9615320128cc7a3d6078e9af05603188e5ccbf0d07d8b735d3df5e8e0c1281f"},
		{127, "c57e9278af78fa3cab38667bef4ce29d783787a2f731d4e12200270f0c32320a"},
		{128, "6836cf13bac400e9105071cd6af47084dfacad4e5e302c94bfed24e013afb73e"},
		{129, "c12cb024a2e5551cca0e08fce8f1c5e314555cc3fef6329ee994a3db752166ae"},
		{1000, "41edece42d63e8d9bf515a9ba6932e1c20cbc9f5a5d134645adb5db1b9737ea3"},
		{impl.MaxText, "cc17faaad36649c4603dda4d8ff97cb149722af0bcac0746305a2134ad2d0b97"},
		{impl.MaxText + 1, "24e9393cfe95959b84669c585c492578df744208bd974a40c229bca1bd77630e"},
		{1000000, "cdc76e5c9914fb9281a1c7e284d73e67f1809a48a497200e046d39ccc7112cd0"},
	} {
		checkDigest(t, strings.Repeat("a", c.size), unhexed(t, c.want))
	}
}

func TestDigestsAreThoseOfTheLibrary(t *testing.T) {
	for size := range 400 {
		for seed := range 3 {
			text := drawnText(int64(400*seed+size), size)
			checkDigest(t, text, digestLike(text))
		}
	}
	// A length in bits that takes more than 16, 24 of them.
	for _, size := range []int{8191, 8192, 65536, 2097151, 2097152, 3000000} {
		text := drawnText(41, size)
		checkDigest(t, text, digestLike(text))
	}
}

func TestHasherNewIsTheFirstState(t *testing.T) {
	want := impl.Hasher{State: unhexed(t, firstStateHex)}
	if got := impl.HasherNew(); got != want {
		t.Errorf("HasherNew() = %x; want %x", got, want)
	}
	if !impl.HasherOk(impl.HasherNew()) {
		t.Error("HasherNew() is not right")
	}
	if got := impl.HashEnd(impl.HasherNew()); got != impl.DigestOf("") {
		t.Errorf("HashEnd(HasherNew()) = %x; want DigestOf nothing", got)
	}
}

func TestHashMoreOfFixedTexts(t *testing.T) {
	first := unhexed(t, firstStateHex)
	block := strings.Repeat("a", 64)
	second := unhexed(t, "df5bb81ce81e0626fb45a8944fd40f31b25e6816d6d499c1ab90492900635e66")
	for _, c := range []struct {
		h    impl.Hasher
		s    string
		want impl.Hasher
	}{
		{impl.Hasher{State: first}, "", impl.Hasher{State: first}},
		{impl.Hasher{State: first}, "a", impl.Hasher{State: first, Rest: "a", Count: 1}},
		{impl.Hasher{State: first, Rest: "a", Count: 1}, "bc", impl.Hasher{State: first, Rest: "abc", Count: 3}},
		{impl.Hasher{State: first, Rest: "a", Count: 65}, "bc", impl.Hasher{State: first, Rest: "abc", Count: 67}},
		{impl.Hasher{State: first}, block[:63], impl.Hasher{State: first, Rest: block[:63], Count: 63}},
		{impl.Hasher{State: first}, block, impl.Hasher{State: second, Count: 64}},
		{impl.Hasher{State: first}, block + "b", impl.Hasher{State: second, Rest: "b", Count: 65}},
		{impl.Hasher{State: first, Rest: block[:63], Count: 63}, "", impl.Hasher{State: first, Rest: block[:63], Count: 63}},
		{impl.Hasher{State: first, Rest: block[:63], Count: 63}, "a", impl.Hasher{State: second, Count: 64}},
		{impl.Hasher{State: first, Rest: block[:63], Count: 63}, "ab", impl.Hasher{State: second, Rest: "b", Count: 65}},
		{impl.Hasher{State: first, Rest: block[:63], Count: 127}, "abc", impl.Hasher{State: second, Rest: "bc", Count: 130}},
	} {
		if got := impl.HashMore(c.h, c.s); got != c.want {
			t.Errorf("HashMore(%x, %q) = %x; want %x", c.h, c.s, got, c.want)
		}
	}
}

func TestDigestsOfTwoParts(t *testing.T) {
	for _, size := range sizesOfNote() {
		text := drawnText(int64(size), size)
		for cut := range size + 1 {
			checkParts(t, text[:cut], text[cut:])
		}
	}
}

func TestDigestsOfThreeParts(t *testing.T) {
	for _, size := range sizesOfNote() {
		text := drawnText(int64(size), size)
		for _, cut := range sizesOfNote() {
			for _, more := range sizesOfNote() {
				if cut+more <= size {
					checkParts(t, text[:cut], text[cut:cut+more], text[cut+more:])
				}
			}
		}
	}
}

func TestDigestsByteByByte(t *testing.T) {
	for _, size := range append(sizesOfNote(), 1000) {
		text := drawnText(int64(size), size)
		checkParts(t, bytesOf(text)...)
		h := impl.HasherNew()
		for _, b := range bytesOf(text) {
			h = checkGoesOn(t, h, b)
		}
		if got := impl.HashEnd(h); got != impl.DigestOf(text) {
			t.Errorf("HashEnd of %d bytes one by one = %x; want %x", size, got, impl.DigestOf(text))
		}
	}
}

func bytesOf(text string) []string {
	var list []string
	for place := range len(text) {
		list = append(list, text[place:place+1])
	}
	return list
}

func TestDigestsOfManyDrawnParts(t *testing.T) {
	draw := rand.New(rand.NewSource(42))
	for _, most := range []int{2, 10, 64, 65, 130, 1000} {
		for range 100 {
			var parts []string
			for range draw.Intn(12) {
				parts = append(parts, drawnText(draw.Int63(), draw.Intn(most+1)))
			}
			checkParts(t, parts...)
		}
	}
}

func TestAnEmptyPartChangesNothing(t *testing.T) {
	for _, size := range sizesOfNote() {
		text := drawnText(int64(size), size)
		h := impl.HashMore(impl.HasherNew(), text)
		if got := impl.HashMore(h, ""); got != h {
			t.Errorf("HashMore(%x, nothing) = %x", h, got)
		}
		checkParts(t, "", text, "")
		checkParts(t, text[:size/2], "", "", text[size/2:])
	}
}

// What was asked for its end, or went on once, goes on as if it had not.
func TestAHasherGoesOnTwice(t *testing.T) {
	h := impl.HashMore(impl.HasherNew(), drawnText(43, 100))
	before := h
	one, other := impl.HashMore(h, drawnText(44, 90)), impl.HashMore(h, drawnText(45, 30))
	impl.HashEnd(h)
	if h != before || impl.HashMore(h, drawnText(44, 90)) != one || impl.HashMore(h, drawnText(45, 30)) != other {
		t.Error("a call left something behind")
	}
}

// Whatever State and Rest of a right one hold, they are gone on from.
func TestEveryRightHasherGoesOn(t *testing.T) {
	draw := rand.New(rand.NewSource(46))
	for range 500 {
		count := draw.Intn(impl.MaxNumber - 300)
		h := impl.Hasher{State: drawnText(draw.Int63(), 32), Rest: drawnText(draw.Int63(), count%64), Count: count}
		if !impl.HasherOk(h) {
			t.Errorf("HasherOk(%x) is false", h)
		}
		checkGoesOn(t, checkGoesOn(t, h, drawnText(draw.Int63(), draw.Intn(150))), drawnText(draw.Int63(), draw.Intn(150)))
	}
}

func TestHasherOkOfEveryRest(t *testing.T) {
	for rest := range 130 {
		for count := range 260 {
			h := impl.Hasher{State: drawnText(47, 32), Rest: drawnText(48, rest), Count: count}
			if got, want := impl.HasherOk(h), rest == count%64; got != want {
				t.Errorf("HasherOk of a Rest of %d and a Count of %d = %v; want %v", rest, count, got, want)
			}
		}
	}
}

// nearMaxNumber has so many bytes to go to MaxNumber.
func nearMaxNumber(left int) impl.Hasher {
	count := impl.MaxNumber - left
	return impl.Hasher{State: drawnText(49, 32), Rest: drawnText(50, count%64), Count: count}
}

func TestCountComesToMaxNumber(t *testing.T) {
	for _, left := range []int{0, 1, 2, 55, 56, 63, 64, 65, 127, 128, 129, 1000, impl.MaxText} {
		h := nearMaxNumber(left)
		if !impl.HasherOk(h) {
			t.Errorf("with %d bytes to go: HasherOk is false", left)
		}
		got := checkGoesOn(t, h, drawnText(51, left))
		if got.Count != impl.MaxNumber || got.Rest != "" {
			t.Errorf("with %d bytes to go: HashMore = %x", left, got)
		}
	}
}

func TestCountStaysAtMaxNumber(t *testing.T) {
	for _, left := range []int{0, 1, 2, 55, 56, 63, 64, 65, 127, 128, 129, 1000, impl.MaxText} {
		h := nearMaxNumber(left)
		for _, over := range []int{1, 2, 63, 64, 65, impl.MaxText} {
			if got := impl.HashMore(h, drawnText(52, left+over)); got != h {
				t.Errorf("with %d bytes to go: HashMore of %d more = %x; want it as it is", left, over, got)
			}
		}
		_, digest := goOnLike(t, h, "")
		if got := impl.HashEnd(h); got != digest {
			t.Errorf("with %d bytes to go: HashEnd = %x; want %x", left, got, digest)
		}
	}
}

func wrongHashers() map[string]impl.Hasher {
	state := drawnText(53, 32)
	return map[string]impl.Hasher{
		"the zero value":             {},
		"State of 31 bytes":          {State: state[:31]},
		"State of 33 bytes":          {State: state + "a"},
		"State of 64 bytes":          {State: state + state},
		"State of 31, all else well": {State: state[:31], Rest: "abc", Count: 67},
		"State of 33, all else well": {State: state + "a", Rest: "abc", Count: 67},
		"Rest of 64 bytes, 0":        {State: state, Rest: drawnText(54, 64)},
		"Rest of 64 bytes, 64":       {State: state, Rest: drawnText(54, 64), Count: 64},
		"Rest of 64 bytes, 128":      {State: state, Rest: drawnText(54, 64), Count: 128},
		"Rest of 65 bytes, 65":       {State: state, Rest: drawnText(54, 65), Count: 65},
		"Rest of 65 bytes, 1":        {State: state, Rest: drawnText(54, 65), Count: 1},
		"Rest of 128 bytes, 128":     {State: state, Rest: drawnText(54, 128), Count: 128},
		"Rest of 0 bytes, 1":         {State: state, Count: 1},
		"Rest of 1 byte, 0":          {State: state, Rest: "a"},
		"Rest of 1 byte, 64":         {State: state, Rest: "a", Count: 64},
		"Rest of 0 bytes, 63":        {State: state, Count: 63},
		"Rest of 3 bytes, 66":        {State: state, Rest: "abc", Count: 66},
		"Rest of 3 bytes, 68":        {State: state, Rest: "abc", Count: 68},
		"Rest of 63 bytes, 64":       {State: state, Rest: drawnText(54, 63), Count: 64},
		"Rest of 1 byte, MaxNumber":  {State: state, Rest: "a", Count: impl.MaxNumber},
		"Count -1":                   {State: state, Rest: drawnText(54, 63), Count: -1},
		"Count -1, Rest of 1 byte":   {State: state, Rest: "a", Count: -1},
		"Count -1, no Rest":          {State: state, Count: -1},
		"Count -63":                  {State: state, Rest: "a", Count: -63},
		"Count -64":                  {State: state, Count: -64},
		"Count -MaxNumber":           {State: state, Count: -impl.MaxNumber},
		"the least Count":            {State: state, Count: math.MinInt},
		"Count MaxNumber + 1":        {State: state, Rest: "a", Count: impl.MaxNumber + 1},
		"Count MaxNumber + 64":       {State: state, Count: impl.MaxNumber + 64},
		"Count 2^32":                 {State: state, Count: 1 << 32},
		"the greatest Count":         {State: state, Rest: drawnText(54, 63), Count: math.MaxInt},
	}
}

func TestWrongHashersAreRefused(t *testing.T) {
	for what, h := range wrongHashers() {
		if impl.HasherOk(h) {
			t.Errorf("%s: HasherOk is true", what)
		}
		for _, size := range []int{0, 1, 61, 63, 64, 65, 128, 1000} {
			if got := impl.HashMore(h, drawnText(55, size)); got != h {
				t.Errorf("%s: HashMore of %d bytes = %x; want it as it is", what, size, got)
			}
		}
		if got := impl.HashEnd(h); got != "" {
			t.Errorf("%s: HashEnd = %x; want nothing", what, got)
		}
	}
}
