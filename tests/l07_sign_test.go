package tests

import (
	"encoding/binary"
	"math"
	"math/rand"
	"strings"
	"testing"

	"loop.example/g00193/impl"
)

const (
	secretOfA   = 884973548
	publicOfA   = 388060471
	secretOfB   = 25548333
	publicOfB   = 1857869207
	sharedOfAB  = 1533915551
	sizeOfASig  = 8
	maxFourByte = 4294967295
)

func secretsOfNote() []int {
	list := []int{1, 2, 3, 4, impl.Order / 2, impl.Order/2 + 1, impl.Order - 2, impl.Order - 1, secretOfA, secretOfB}
	draw := rand.New(rand.NewSource(101))
	for range 40 {
		list = append(list, 1+draw.Intn(impl.Order-1))
	}
	return list
}

func secretsOutside() []int {
	return []int{0, -1, -2, 1 - impl.Order, -impl.Order, -impl.Order - 1, math.MinInt, math.MinInt + 1, impl.Order, impl.Order + 1, impl.Order + secretOfA, 2*impl.Order - 1, 2 * impl.Order, 2*impl.Order + 1, impl.Prime, impl.Prime + 1, maxFourByte, maxFourByte + 1, maxFourByte + 2, math.MaxInt - 1, math.MaxInt}
}

// publicsOutside are not InGroup: no squares, and squares that are out of range.
func publicsOutside() []int {
	return []int{0, 1, 2, 6, 8, impl.Prime - 4, impl.Prime - 1, impl.Prime, impl.Prime + 1, impl.Prime + 4, impl.Prime + publicOfA, 2 * impl.Prime, -1, -4, 4 - impl.Prime, -publicOfA, publicOfA - impl.Prime, maxFourByte, maxFourByte + 1, maxFourByte + 5, math.MinInt, math.MinInt + 1, math.MaxInt - 1, math.MaxInt}
}

func sigNumbersOutside() []int {
	return []int{-1, -2, 1 - impl.Order, -impl.Order, math.MinInt, math.MinInt + 1, impl.Order, impl.Order + 1, 2 * impl.Order, impl.Prime - 1, impl.Prime, maxFourByte, maxFourByte + 1, maxFourByte + 2, math.MaxInt - 1, math.MaxInt}
}

func signedTexts() []string {
	return []string{"", "m", "n", "\x00", "a text of some words", "\xff\xfe\x00", drawnText(102, 47), drawnText(103, 48), drawnText(104, 64), drawnText(105, 1000)}
}

func fourBytesLike(n int) string {
	return string(binary.BigEndian.AppendUint32(nil, uint32(n)))
}

func digestNumberLike(text string) int {
	return int(binary.BigEndian.Uint32([]byte(digestLike(text)[:4])))
}

func secretLike(seed string) int {
	return 1 + digestNumberLike(seed+"s")%(impl.Order-1)
}

func challengeLike(r, public int, m string) int {
	return digestNumberLike(fourBytesLike(r)+fourBytesLike(public)+m) % impl.Order
}

func signLike(secret int, m string) impl.Sig {
	k := secretLike(fourBytesLike(secret) + m)
	e := challengeLike(powLike(4, k), powLike(4, secret), m)
	return impl.Sig{E: e, S: (k + e*secret) % impl.Order}
}

func checkSign(t *testing.T, secret int, m string, want impl.Sig) {
	t.Helper()
	got, ok := impl.SignText(secret, m)
	if got != want || !ok {
		t.Errorf("SignText(%d, %.20q of %d bytes) = %v, %v; want %v, true", secret, m, len(m), got, ok, want)
	}
}

func checkFound(t *testing.T, public int, m string, s impl.Sig, want bool) {
	t.Helper()
	if got := impl.CheckText(public, m, s); got != want {
		t.Errorf("CheckText(%d, %.20q of %d bytes, %v) = %v; want %v", public, m, len(m), s, got, want)
	}
}

func checkShared(t *testing.T, secret, public, want int) {
	t.Helper()
	if got, ok := impl.SharedOf(secret, public); got != want || !ok {
		t.Errorf("SharedOf(%d, %d) = %d, %v; want %d, true", secret, public, got, ok, want)
	}
}

func checkNoShared(t *testing.T, secret, public int) {
	t.Helper()
	if got, ok := impl.SharedOf(secret, public); got != 0 || ok {
		t.Errorf("SharedOf(%d, %d) = %d, %v; want 0, false", secret, public, got, ok)
	}
}

func checkSigText(t *testing.T, s impl.Sig, want string) {
	t.Helper()
	if got, ok := impl.SigText(s); got != want || !ok {
		t.Errorf("SigText(%v) = %x, %v; want %x, true", s, got, ok, want)
	}
	if got, ok := impl.ReadSig(want); got != s || !ok {
		t.Errorf("ReadSig(%x) = %v, %v; want %v, true", want, got, ok, s)
	}
}

func checkNoSigText(t *testing.T, s impl.Sig) {
	t.Helper()
	if got, ok := impl.SigText(s); got != "" || ok {
		t.Errorf("SigText(%v) = %x, %v; want nothing, false", s, got, ok)
	}
}

func checkNoSig(t *testing.T, text string) {
	t.Helper()
	if got, ok := impl.ReadSig(text); got != (impl.Sig{}) || ok {
		t.Errorf("ReadSig(%x) = %v, %v; want zeros, false", text, got, ok)
	}
}

func TestSecretsOfFixedSeeds(t *testing.T) {
	all := ""
	for b := range 256 {
		all += string([]byte{byte(b)})
	}
	for _, c := range []struct {
		seed           string
		secret, public int
	}{
		{"", 70939016, 1002348785},
		{"a", secretOfA, publicOfA},
		{"b", secretOfB, publicOfB},
		{"s", 589293998, 933867003},
		{"as", 543356929, 1685335343},
		{"\x00", 518811265, 782044311},
		{strings.Repeat("a", 63), 136638454, 1400082527},
		{strings.Repeat("a", 64), 398860020, 1558711526},
		{strings.Repeat("a", 1000), 424320112, 1910645899},
		{all, 86618674, 2058215167},
		// Seeds whose numbers are 0 and Order - 2 modulo Order - 1.
		{"1300623570", 1, impl.Base},
		{"411028966", impl.Order - 1, 536870895},
	} {
		if got := impl.SecretOf(c.seed); got != c.secret {
			t.Errorf("SecretOf(%.20q of %d bytes) = %d; want %d", c.seed, len(c.seed), got, c.secret)
		}
		if got := impl.PublicOf(c.secret); got != c.public {
			t.Errorf("PublicOf(%d) = %d; want %d", c.secret, got, c.public)
		}
	}
}

func TestSecretsAreWhatTheLibraryMakesOfTheChapter(t *testing.T) {
	draw := rand.New(rand.NewSource(106))
	for range 3000 {
		seed := drawnText(draw.Int63(), draw.Intn(150))
		got := impl.SecretOf(seed)
		if want := secretLike(seed); got != want {
			t.Errorf("SecretOf(%x) = %d; want %d", seed, got, want)
		}
		if got < 1 || got > impl.Order-1 {
			t.Errorf("SecretOf(%x) = %d, which is no secret", seed, got)
		}
	}
}

func TestPublicsOfFixedSecrets(t *testing.T) {
	for _, c := range []struct{ secret, want int }{
		{1, 4},
		{2, 16},
		{3, 64},
		{16, 138},
		{impl.Order / 2, 1073741789},
		{impl.Order - 2, 1744830408},
		{impl.Order - 1, 536870895},
	} {
		if got := impl.PublicOf(c.secret); got != c.want {
			t.Errorf("PublicOf(%d) = %d; want %d", c.secret, got, c.want)
		}
	}
}

func TestPublicsAreInTheGroup(t *testing.T) {
	for _, secret := range secretsOfNote() {
		public := impl.PublicOf(secret)
		if want := powLike(4, secret); public != want {
			t.Errorf("PublicOf(%d) = %d; want %d", secret, public, want)
		}
		if !impl.InGroup(public) {
			t.Errorf("PublicOf(%d) = %d, which is not InGroup", secret, public)
		}
	}
}

func TestSecretsThatAreNone(t *testing.T) {
	for _, secret := range secretsOutside() {
		if got := impl.PublicOf(secret); got != 0 {
			t.Errorf("PublicOf(%d) = %d; want 0", secret, got)
		}
		for _, m := range signedTexts() {
			if got, ok := impl.SignText(secret, m); got != (impl.Sig{}) || ok {
				t.Errorf("SignText(%d, %.20q) = %v, %v; want zeros, false", secret, m, got, ok)
			}
		}
		for _, public := range append([]int{3, 4, publicOfA, impl.Prime - 2}, publicsOutside()...) {
			checkNoShared(t, secret, public)
		}
	}
}

func TestChallengesOfFixedNumbers(t *testing.T) {
	for _, c := range []struct {
		r, public int
		m         string
		want      int
	}{
		{0, 0, "", 794128699},
		{0, 0, "m", 870783095},
		{0, maxFourByte, "", 427911519},
		{maxFourByte, 0, "", 849672792},
		{maxFourByte, maxFourByte, "", 312716868},
		{maxFourByte, maxFourByte, "m", 281133667},
		{1, 2, "", 257449429},
		{2, 1, "", 513789260},
		{0, 1, "\x00", 642577924},
		{4, 4, "hello", 576472974},
		{impl.Prime, impl.Order, strings.Repeat("a", 47), 76698448},
		{impl.Prime, impl.Order, strings.Repeat("a", 48), 948929297},
		// Texts whose numbers are 0 and Order - 1 modulo Order.
		{1, publicOfA, "400327712", 0},
		{publicOfA, publicOfA, "878364780", impl.Order - 1},
	} {
		if got := impl.Challenge(c.r, c.public, c.m); got != c.want {
			t.Errorf("Challenge(%d, %d, %.20q) = %d; want %d", c.r, c.public, c.m, got, c.want)
		}
	}
}

func TestChallengesAreWhatTheLibraryMakesOfTheChapter(t *testing.T) {
	numbers := []int{0, 1, 255, 256, impl.Order, impl.Prime, 1 << 31, maxFourByte - 1, maxFourByte}
	for _, r := range numbers {
		for _, public := range numbers {
			for _, m := range signedTexts() {
				got, want := impl.Challenge(r, public, m), challengeLike(r, public, m)
				if got != want || got < 0 || got >= impl.Order {
					t.Errorf("Challenge(%d, %d, %.20q) = %d; want %d", r, public, m, got, want)
				}
			}
		}
	}
}

func TestChallengesOutsideAreNought(t *testing.T) {
	outside := []int{-1, -2, -maxFourByte, math.MinInt, maxFourByte + 1, maxFourByte + 2, 2 * maxFourByte, math.MaxInt}
	for _, wrong := range outside {
		for _, other := range append([]int{0, 1, impl.Prime, maxFourByte}, outside...) {
			for _, m := range []string{"", "m", drawnText(107, 100)} {
				if got := impl.Challenge(wrong, other, m); got != 0 {
					t.Errorf("Challenge(%d, %d, %.20q) = %d; want 0", wrong, other, m, got)
				}
				if got := impl.Challenge(other, wrong, m); got != 0 {
					t.Errorf("Challenge(%d, %d, %.20q) = %d; want 0", other, wrong, m, got)
				}
			}
		}
	}
}

func TestSignaturesOfFixedTexts(t *testing.T) {
	for _, c := range []struct {
		secret int
		m      string
		want   impl.Sig
		text   string
	}{
		{1, "", impl.Sig{E: 519291938, S: 638074350}, "1ef3c42226083dee"},
		{1, "m", impl.Sig{E: 122552765, S: 595311614}, "074e01bd237bbbfe"},
		{2, "m", impl.Sig{E: 181752578, S: 570082421}, "0ad5530221fac475"},
		{impl.Order - 2, "m", impl.Sig{E: 107900862, S: 868474170}, "066e6fbe33c3dd3a"},
		{impl.Order - 1, "", impl.Sig{E: 709628222, S: 980065731}, "2a4c113e3a6a9dc3"},
		{impl.Order - 1, "m", impl.Sig{E: 397615297, S: 341414182}, "17b320c114599126"},
		{secretOfA, "", impl.Sig{E: 122965755, S: 582437750}, "07544efb22b74b76"},
		{secretOfA, "m", impl.Sig{E: 945814806, S: 583531414}, "385ffd1622c7fb96"},
		{secretOfA, "n", impl.Sig{E: 155891420, S: 913135888}, "094ab6dc366d5910"},
		{secretOfB, "m", impl.Sig{E: 694773995, S: 699695978}, "296968eb29b4836a"},
		{secretOfA, "\x00", impl.Sig{E: 843945031, S: 933373323}, "324d944737a2258b"},
		{secretOfA, strings.Repeat("a", 56), impl.Sig{E: 1048058230, S: 602523401}, "3e78197623e9c709"},
		{secretOfA, strings.Repeat("a", 1000), impl.Sig{E: 177709180, S: 643045102}, "0a97a07c265416ee"},
	} {
		checkSign(t, c.secret, c.m, c.want)
		checkFound(t, impl.PublicOf(c.secret), c.m, c.want, true)
		checkSigText(t, c.want, unhexed(t, c.text))
	}
}

func TestWhatIsSignedIsFoundToBeSigned(t *testing.T) {
	for _, secret := range secretsOfNote() {
		for _, m := range signedTexts() {
			checkSign(t, secret, m, signLike(secret, m))
			checkFound(t, impl.PublicOf(secret), m, signLike(secret, m), true)
		}
	}
	draw := rand.New(rand.NewSource(108))
	for range 500 {
		secret := impl.SecretOf(drawnText(draw.Int63(), draw.Intn(70)))
		m := drawnText(draw.Int63(), draw.Intn(200))
		s, ok := impl.SignText(secret, m)
		again, _ := impl.SignText(secret, strings.Clone(m))
		if !ok || s != again {
			t.Errorf("SignText(%d, %x) = %v, %v; the next time %v", secret, m, s, ok, again)
		}
		checkFound(t, impl.PublicOf(secret), m, s, true)
		checkSigText(t, s, fourBytesLike(s.E)+fourBytesLike(s.S))
	}
}

// The texts are such that the challenge is just the E at an end of its range.
func TestSignaturesAtTheEndsOfTheirRangeAreFound(t *testing.T) {
	for _, c := range []struct {
		m string
		s impl.Sig
	}{
		{"400327712", impl.Sig{E: 0, S: 0}},
		{"1283977717", impl.Sig{E: 0, S: impl.Order - 1}},
		{"878364780", impl.Sig{E: impl.Order - 1, S: 0}},
		{"694686850", impl.Sig{E: impl.Order - 1, S: impl.Order - 1}},
	} {
		checkFound(t, publicOfA, c.m, c.s, true)
		checkFound(t, publicOfB, c.m, c.s, false)
		checkFound(t, publicOfA, c.m+"0", c.s, false)
		checkFound(t, publicOfA, c.m, impl.Sig{E: c.s.E + impl.Order, S: c.s.S}, false)
		checkFound(t, publicOfA, c.m, impl.Sig{E: c.s.E - impl.Order, S: c.s.S}, false)
		checkFound(t, publicOfA, c.m, impl.Sig{E: c.s.E, S: c.s.S + impl.Order}, false)
		checkFound(t, publicOfA, c.m, impl.Sig{E: c.s.E, S: c.s.S - impl.Order}, false)
	}
}

func TestOtherSignaturesAreNotFound(t *testing.T) {
	for _, secret := range secretsOfNote() {
		public := impl.PublicOf(secret)
		for _, m := range signedTexts() {
			s := signLike(secret, m)
			for _, by := range []int{-1, 1, -impl.Order, impl.Order, 2 * impl.Order} {
				checkFound(t, public, m, impl.Sig{E: s.E + by, S: s.S}, false)
				checkFound(t, public, m, impl.Sig{E: s.E, S: s.S + by}, false)
				checkFound(t, public, m, impl.Sig{E: s.E + by, S: s.S + by}, false)
			}
			checkFound(t, public, m, impl.Sig{E: s.S, S: s.E}, false)
			checkFound(t, public, m, impl.Sig{E: s.E}, false)
			checkFound(t, public, m, impl.Sig{S: s.S}, false)
			checkFound(t, public, m, impl.Sig{}, false)
		}
	}
}

func TestAnotherTextOrPublicIsNotFound(t *testing.T) {
	for place, secret := range secretsOfNote() {
		public := impl.PublicOf(secret)
		for _, m := range signedTexts() {
			s := signLike(secret, m)
			checkFound(t, public, m+"\x00", s, false)
			checkFound(t, public, "\x00"+m, s, false)
			checkFound(t, public, "another one", s, false)
			if m != "" {
				checkFound(t, public, m[1:], s, false)
				checkFound(t, public, m[:len(m)-1]+string([]byte{m[len(m)-1] ^ 1}), s, false)
			}
			next := secretsOfNote()[(place+1)%len(secretsOfNote())]
			checkFound(t, impl.PublicOf(next), m, s, false)
			for _, wrong := range publicsOutside() {
				checkFound(t, wrong, m, s, false)
			}
		}
	}
}

func TestSignaturesOutsideAreNotFound(t *testing.T) {
	s := signLike(secretOfA, "m")
	for _, n := range sigNumbersOutside() {
		for _, public := range []int{publicOfA, 4, 0, 1, impl.Prime, -1} {
			checkFound(t, public, "m", impl.Sig{E: n, S: s.S}, false)
			checkFound(t, public, "m", impl.Sig{E: s.E, S: n}, false)
			checkFound(t, public, "m", impl.Sig{E: n, S: n}, false)
		}
	}
}

// The signatures are such that all else holds of them: only that public is not
// InGroup is wrong.
func TestPublicsOutsideFindNothing(t *testing.T) {
	for _, m := range signedTexts() {
		for _, s := range []int{0, 1, 12345, impl.Order - 1} {
			checkFound(t, 1, m, impl.Sig{E: challengeLike(powLike(4, s), 1, m), S: s}, false)
			for _, public := range []int{0, impl.Prime, 2 * impl.Prime} {
				checkFound(t, public, m, impl.Sig{E: challengeLike(0, public, m), S: s}, false)
			}
			for _, public := range []int{-1, -4, math.MinInt, maxFourByte + 1, math.MaxInt} {
				checkFound(t, public, m, impl.Sig{E: 0, S: s}, false)
			}
			e := challengeLike(powLike(4, s), impl.Prime+4, m)
			checkFound(t, impl.Prime+4, m, impl.Sig{E: e, S: (s + e) % impl.Order}, false)
		}
	}
}

// Of the opposite of a number of the group an even power is the number's own:
// who knows its secret would sign for it, too, if it were let in.
func TestOppositesOfPublicsFindNothing(t *testing.T) {
	for _, secret := range []int{0, 1, 2, impl.Order/2 + 1, secretOfA, impl.Order - 1} {
		public, made := impl.Prime-powLike(4, secret), 0
		for k := range 64 {
			e := challengeLike(powLike(4, k), public, "m")
			s := impl.Sig{E: e, S: (k + e*secret) % impl.Order}
			if r := mulLike(powLike(4, s.S), powLike(public, impl.Order-e)); r == powLike(4, k) {
				made++
				checkFound(t, public, "m", s, false)
			}
		}
		if made == 0 {
			t.Errorf("no signature was made for %d", public)
		}
	}
}

func TestSharedNumbersOfFixedOnes(t *testing.T) {
	for _, c := range []struct{ secret, public, want int }{
		{1, 3, 3},
		{1, 4, 4},
		{2, 4, 16},
		{2, impl.Prime - 2, 4},
		{impl.Order - 1, 4, 536870895},
		{impl.Order - 1, 536870895, 4},
		{impl.Order - 1, publicOfA, 1478903883},
		{secretOfA, 3, 764699669},
		{secretOfA, 4, publicOfA},
		{secretOfA, impl.Prime - 2, 1993718540},
		{secretOfA, publicOfB, sharedOfAB},
		{secretOfB, publicOfA, sharedOfAB},
	} {
		checkShared(t, c.secret, c.public, c.want)
	}
}

func TestTwoFindTheSameSharedNumber(t *testing.T) {
	for _, one := range secretsOfNote() {
		for _, other := range secretsOfNote() {
			want := powLike(4, int(int64(one)*int64(other)%impl.Order))
			checkShared(t, one, impl.PublicOf(other), want)
			checkShared(t, other, impl.PublicOf(one), want)
		}
	}
	draw := rand.New(rand.NewSource(109))
	for range 500 {
		one, other := impl.SecretOf(drawnText(draw.Int63(), 20)), impl.SecretOf(drawnText(draw.Int63(), 20))
		want, ok := impl.SharedOf(one, impl.PublicOf(other))
		if !ok || !impl.InGroup(want) {
			t.Errorf("SharedOf(%d, PublicOf(%d)) = %d, %v", one, other, want, ok)
		}
		checkShared(t, other, impl.PublicOf(one), want)
	}
}

func TestNothingIsSharedWithPublicsOutside(t *testing.T) {
	for _, public := range publicsOutside() {
		for _, secret := range secretsOfNote() {
			checkNoShared(t, secret, public)
		}
	}
}

func TestSigTextsOfFixedNumbers(t *testing.T) {
	for _, c := range []struct {
		s    impl.Sig
		want string
	}{
		{impl.Sig{}, "0000000000000000"},
		{impl.Sig{E: 1}, "0000000100000000"},
		{impl.Sig{S: 1}, "0000000000000001"},
		{impl.Sig{E: 16909060, S: 84281096}, "0102030405060708"},
		{impl.Sig{E: impl.Order - 1}, "3fffffdc00000000"},
		{impl.Sig{S: impl.Order - 1}, "000000003fffffdc"},
		{impl.Sig{E: impl.Order - 1, S: impl.Order - 1}, "3fffffdc3fffffdc"},
		{impl.Sig{E: impl.Order - 2, S: impl.Order - 1}, "3fffffdb3fffffdc"},
	} {
		checkSigText(t, c.s, unhexed(t, c.want))
	}
}

func TestSigTextRefuses(t *testing.T) {
	for _, n := range sigNumbersOutside() {
		for _, other := range append([]int{0, 1, impl.Order - 1}, sigNumbersOutside()...) {
			checkNoSigText(t, impl.Sig{E: n, S: other})
			checkNoSigText(t, impl.Sig{E: other, S: n})
		}
	}
}

func TestReadSigRefusesOtherLengths(t *testing.T) {
	for size := range 41 {
		if size != sizeOfASig {
			checkNoSig(t, strings.Repeat("\x00", size))
			checkNoSig(t, strings.Repeat("\x01", size))
			checkNoSig(t, strings.Repeat("\xff", size))
		}
	}
	right := unhexed(t, "385ffd1622c7fb96")
	checkNoSig(t, right[1:])
	checkNoSig(t, right[:7])
	checkNoSig(t, right+"\x00")
	checkNoSig(t, "\x00"+right)
	checkNoSig(t, right+right)
	checkNoSig(t, drawnText(110, 100000))
}

func TestReadSigRefusesNumbersOfOrderOrMore(t *testing.T) {
	for _, n := range []int{impl.Order, impl.Order + 1, 1 << 30, 2 * impl.Order, 1<<31 - 1, 1 << 31, impl.Prime, maxFourByte - 1, maxFourByte} {
		for _, other := range []int{0, 1, impl.Order - 1, impl.Order, maxFourByte} {
			checkNoSig(t, fourBytesLike(n)+fourBytesLike(other))
			checkNoSig(t, fourBytesLike(other)+fourBytesLike(n))
		}
	}
}

// What is read is written back as it was: no text but one is a signature's.
func TestSigTextsThatAreReadAreWrittenBack(t *testing.T) {
	draw := rand.New(rand.NewSource(111))
	for range 3000 {
		e, s := int(draw.Uint32()), int(draw.Uint32())
		text := fourBytesLike(e) + fourBytesLike(s)
		if e < impl.Order && s < impl.Order {
			checkSigText(t, impl.Sig{E: e, S: s}, text)
		} else {
			checkNoSig(t, text)
			checkNoSigText(t, impl.Sig{E: e, S: s})
		}
	}
}

func TestRefusedSignaturesLeaveNothingBehind(t *testing.T) {
	for range 3 {
		checkFound(t, publicOfA, "m", impl.Sig{E: -1}, false)
		checkNoShared(t, 0, publicOfA)
		checkNoSig(t, "")
		checkSign(t, secretOfA, "m", impl.Sig{E: 945814806, S: 583531414})
		checkFound(t, publicOfA, "m", impl.Sig{E: 945814806, S: 583531414}, true)
	}
}
