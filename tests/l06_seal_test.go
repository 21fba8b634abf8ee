package tests

import (
	"math"
	"math/rand"
	"strings"
	"testing"

	"loop.example/g00193/impl"
)

const (
	mostMasked  = 8000
	sizeOfATag  = 16
	aLockedText = "0a49951cdbbe007d1305554e1da091b29d72" // "hi", with the key "k" and the number 3
)

// maskedOfNote are on both sides of where a sum of a mask ends.
func maskedOfNote() []int {
	return []int{0, 1, 2, 16, 30, 31, 32, 33, 34, 63, 64, 65, 95, 96, 97, 1000, 7967, 7968, 7969, mostMasked - 1, mostMasked}
}

func maskedOutside() []int {
	return []int{-1, -2, -32, -mostMasked, math.MinInt, math.MinInt + 1, mostMasked + 1, mostMasked + 2, mostMasked + 32, 8160, 8192, 8193, impl.MaxText, 1 << 32, 1<<32 + 1, math.MaxInt - 1, math.MaxInt}
}

func lockNumbersOfNote() []int {
	return []int{0, 1, 126, 127, 128, 129, 255, 256, 16383, 16384, 16385, 1<<21 - 1, 1 << 21, 1<<28 - 1, 1 << 28, impl.MaxNumber - 1, impl.MaxNumber}
}

func lockNumbersOutside() []int {
	return []int{-1, -2, -128, -impl.MaxNumber, math.MinInt, math.MinInt + 1, impl.MaxNumber + 1, impl.MaxNumber + 2, 1 << 30, 1 << 32, 1<<32 + 3, math.MaxInt - 1, math.MaxInt}
}

func lockKeysOfNote() []string {
	return []string{"", "k", "\x00", drawnText(81, 32), drawnText(82, 63), drawnText(83, 64), drawnText(84, 65), drawnText(85, 1000)}
}

func numberLike(num int) string {
	out := ""
	for ; num > 127; num /= 128 {
		out += string([]byte{byte(num%128 + 128)})
	}
	return out + string([]byte{byte(num)})
}

func maskLike(key string, num, n int) string {
	out := ""
	for count := 0; len(out) < n; count++ {
		out += macLike(key, "m"+numberLike(num)+string([]byte{byte(count)}))
	}
	return out[:n]
}

func lockLike(key string, num int, s string) string {
	hidden := []byte(maskLike(key, num, len(s)))
	for place := range hidden {
		hidden[place] ^= s[place]
	}
	return string(hidden) + macLike(key, "t"+numberLike(num)+string(hidden))[:sizeOfATag]
}

func checkMask(t *testing.T, key string, num, n int, want string) {
	t.Helper()
	if got, ok := impl.Mask(key, num, n); got != want || !ok {
		t.Errorf("Mask(%.20q of %d bytes, %d, %d) = %.40x of %d bytes, %v; want %.40x of %d, true", key, len(key), num, n, got, len(got), ok, want, len(want))
	}
}

func checkLock(t *testing.T, key string, num int, s, want string) {
	t.Helper()
	if got, ok := impl.LockText(key, num, s); got != want || !ok {
		t.Errorf("LockText(%.20q of %d bytes, %d, %.20q of %d bytes) = %.40x of %d bytes, %v; want %.40x of %d, true", key, len(key), num, s, len(s), got, len(got), ok, want, len(want))
	}
	checkOpen(t, key, num, want, s)
}

func checkOpen(t *testing.T, key string, num int, text, want string) {
	t.Helper()
	if got, ok := impl.OpenText(key, num, text); got != want || !ok {
		t.Errorf("OpenText(%.20q of %d bytes, %d, %.40x of %d bytes) = %.40q of %d bytes, %v; want %.40q of %d, true", key, len(key), num, text, len(text), got, len(got), ok, want, len(want))
	}
}

func checkShut(t *testing.T, key string, num int, text string) {
	t.Helper()
	if got, ok := impl.OpenText(key, num, text); got != "" || ok {
		t.Errorf("OpenText(%.20q of %d bytes, %d, %.40x of %d bytes) = %.40q of %d bytes, %v; want nothing, false", key, len(key), num, text, len(text), got, len(got), ok)
	}
}

func checkNoMask(t *testing.T, key string, num, n int) {
	t.Helper()
	if got, ok := impl.Mask(key, num, n); got != "" || ok {
		t.Errorf("Mask(%.20q, %d, %d) = %d bytes, %v; want nothing, false", key, num, n, len(got), ok)
	}
}

func checkNoLock(t *testing.T, key string, num int, s string) {
	t.Helper()
	if got, ok := impl.LockText(key, num, s); got != "" || ok {
		t.Errorf("LockText(%.20q, %d, %.20q of %d bytes) = %d bytes, %v; want nothing, false", key, num, s, len(s), len(got), ok)
	}
}

func TestMasksOfFixedNumbers(t *testing.T) {
	for _, c := range []struct {
		key    string
		num, n int
		want   string
	}{
		{"k", 0, 0, ""},
		{"k", 0, 1, "ce"},
		{"k", 0, 5, "ced6339a7b"},
		{"k", 0, 31, "ced6339a7bf008bba7676e335e294baaa625081683e2240928e0a980a0007d"},
		{"k", 0, 32, "ced6339a7bf008bba7676e335e294baaa625081683e2240928e0a980a0007daa"},
		{"k", 0, 33, "ced6339a7bf008bba7676e335e294baaa625081683e2240928e0a980a0007daaaf"},
		{"k", 0, 65, "ced6339a7bf008bba7676e335e294baaa625081683e2240928e0a980a0007daaafdd0c911e9c7e384ecf17ccad3c57e3f70635c9070941dece3b784c574f5a1431"},
		{"k", 127, 65, "d9d3cb01d24c0373b22c4bbe6bfd09071fa7def97746255914bdc4ec79aedd0e5c02dfd47ec5d269ffd3fd4aac8d773eaf83a785f95ced8c0760f8c5212a9ad34a"},
		{"k", 128, 65, "bacda402c53518ec064331b2c6ca082ac542f8a78864b610db402b830dd1c8c1fbf6f154287beb0ebabc9410dcf97855698cd909fd9e2aaa53b3990d0c3ae37b9a"},
		{"k", 16384, 33, "f72225c5e0b87823a5f616add02173b098514725e92dca76d5e35965d62c6c757d"},
		{"k", impl.MaxNumber, 65, "fb6eab1be18dacf7e1192620cfc323ad1499fdaec35c25ad23be8ccee18cb9797d5d91ee1b7970eddf4ffc59c83b83e8bd611fde66bb046ac6565405fe96b0dffb"},
		{"", 3, 33, "d090990fe9514d1410c185e17e44e21fa854f5b9092d02bcf3927b7cfe6f21738d"},
		{strings.Repeat("a", 64), 3, 33, "6e1a2ba5a44632d33ce9b9665a28eea6aca82f62c71e053fc4d1c9d956c4743c50"},
		{strings.Repeat("a", 65), 3, 33, "817be7b9f4d4e630d9f51a8117600d0aa6824988873a9ce8a55688ad63db140c79"},
	} {
		checkMask(t, c.key, c.num, c.n, unhexed(t, c.want))
	}
}

func TestTheLongestMaskOfAFixedNumber(t *testing.T) {
	got, ok := impl.Mask("k", 3, mostMasked)
	if len(got) != mostMasked || !ok {
		t.Fatalf("Mask of %d bytes has %d, %v", mostMasked, len(got), ok)
	}
	if want := unhexed(t, "5a8fc9089d1b2f869f0bc6560e3accdbb273ea4e21370f04cfe4732297f973317f22b6b870ad8434"); got[mostMasked-40:] != want {
		t.Errorf("its last 40 bytes are %x; want %x", got[mostMasked-40:], want)
	}
	if want := unhexed(t, "6c8c93ab43cf1a517654475a0424a953638bc617e5d0f29f81580ce51f97d1f2"); digestLike(got) != want {
		t.Errorf("its digest is %x; want %x", digestLike(got), want)
	}
}

// Each sum of a mask is of a word, the number, and a byte that counts from 0.
func TestMasksAreSumsThatCountFromNought(t *testing.T) {
	for _, num := range lockNumbersOfNote() {
		number, ok := impl.VarText(num)
		if !ok {
			t.Fatalf("VarText(%d) is refused", num)
		}
		for _, key := range lockKeysOfNote() {
			first, second := impl.MacOf(key, "m"+number+"\x00"), impl.MacOf(key, "m"+number+"\x01")
			checkMask(t, key, num, 32, first)
			checkMask(t, key, num, 64, first+second)
		}
	}
	want := ""
	for count := range 250 {
		want += impl.MacOf("key", "m\x80\x01"+string([]byte{byte(count)}))
		checkMask(t, "key", 128, 32*count+32, want)
	}
}

func TestMasksAreWhatTheLibraryMakesOfTheChapter(t *testing.T) {
	for _, key := range lockKeysOfNote() {
		for _, num := range lockNumbersOfNote() {
			for _, n := range []int{0, 1, 31, 32, 33, 64, 65, 97} {
				checkMask(t, key, num, n, maskLike(key, num, n))
			}
		}
		for _, n := range maskedOfNote() {
			checkMask(t, key, 3, n, maskLike(key, 3, n))
		}
	}
}

func TestAMaskBeginsWithEachShorterOne(t *testing.T) {
	for _, key := range lockKeysOfNote() {
		for _, num := range []int{0, 3, 127, 128, impl.MaxNumber} {
			longest, ok := impl.Mask(key, num, 100)
			if len(longest) != 100 || !ok {
				t.Fatalf("Mask of 100 bytes has %d, %v", len(longest), ok)
			}
			for n := range 100 {
				checkMask(t, key, num, n, longest[:n])
			}
		}
	}
	longest, _ := impl.Mask("key", 3, mostMasked)
	for _, n := range maskedOfNote() {
		checkMask(t, "key", 3, n, longest[:n])
	}
}

func TestMasksOutsideAreRefused(t *testing.T) {
	for _, key := range []string{"", "k", drawnText(83, 64), drawnText(84, 65)} {
		for _, num := range lockNumbersOutside() {
			for _, n := range []int{0, 1, 32, 33, mostMasked} {
				checkNoMask(t, key, num, n)
			}
		}
		for _, n := range maskedOutside() {
			for _, num := range []int{0, 127, 128, impl.MaxNumber, -1, impl.MaxNumber + 1, math.MinInt, math.MaxInt} {
				checkNoMask(t, key, num, n)
			}
		}
	}
}

func TestLocksOfFixedTexts(t *testing.T) {
	for _, c := range []struct {
		key  string
		num  int
		text string
		want string
	}{
		{"k", 3, "hi", aLockedText},
		{"k", 3, "", "bc7e70f85d0268f15314f7cf700cfc5c"},
		{"k", 0, "hi", "a6bff557105143ba63b9c116a29a51f6ac6d"},
		{"k", 127, "hi", "b1ba5ed051cc447fe5ea1b10f3a68ea09b2f"},
		{"k", 128, "hi", "d2a4fdbf22ffbd7143737e400b6871b5aeb0"},
		{"k", impl.MaxNumber, "hi", "93079ba51218a2a0e7767417f5174da0ee1e"},
		{"k", 3, strings.Repeat("\x00", 33), "62209fe75ba1665e9241aafbf6e3f5b9ec8a5d5fc9cef8d2b52d03d88cbfee57f419c8c8b4e34f879e1050de3fef32b9bd"},
		{"k", 3, strings.Repeat("a", 40), "0341fe863ac0073ff320cb9a978294d88deb3c3ea8af99b3d44c62b9edde8f3695ce099afe9108997976f78d74dd120bcd19f8a19cc5a768"},
		{"", 3, "hi", "b8f9873e91ad908ab08e7078b839c4d7b3d1"},
		{"", 0, "", "b54a902486347a816a8205412c3571b9"},
		{strings.Repeat("a", 64), 3, "hi", "067379414a19ad3525e299500323f2638831"},
		{strings.Repeat("a", 65), 3, "hi", "e9122077bf53e007e1608f71d2d7be7c60fe"},
	} {
		checkLock(t, c.key, c.num, c.text, unhexed(t, c.want))
	}
}

func TestTheLongestLockOfAFixedText(t *testing.T) {
	text := strings.Repeat("a", mostMasked)
	got, ok := impl.LockText("k", 3, text)
	if len(got) != mostMasked+sizeOfATag || !ok {
		t.Fatalf("LockText of %d bytes has %d, %v", mostMasked, len(got), ok)
	}
	if want := unhexed(t, "d3128b2f40566e65ae851243f69812501e43d7d911cce5551e7b5715974f473e0502d8d99bf39e72"); got[len(got)-40:] != want {
		t.Errorf("its last 40 bytes are %x; want %x", got[len(got)-40:], want)
	}
	if want := unhexed(t, "c4f1141b399b364616539b56c254c1527efdc62f33c2a2da88afabb5705b8734"); digestLike(got) != want {
		t.Errorf("its digest is %x; want %x", digestLike(got), want)
	}
	checkOpen(t, "k", 3, got, text)
}

func TestLocksAreWhatTheLibraryMakesOfTheChapter(t *testing.T) {
	for _, key := range lockKeysOfNote() {
		for _, num := range lockNumbersOfNote() {
			for _, size := range []int{0, 1, 16, 31, 32, 33, 65} {
				text := drawnText(int64(size+86), size)
				checkLock(t, key, num, text, lockLike(key, num, text))
			}
		}
		for _, size := range maskedOfNote() {
			text := drawnText(int64(size+87), size)
			checkLock(t, key, 3, text, lockLike(key, 3, text))
		}
	}
}

func TestWhatIsLockedIsOpened(t *testing.T) {
	draw := rand.New(rand.NewSource(88))
	for range 500 {
		key, num := drawnText(draw.Int63(), draw.Intn(100)), draw.Intn(impl.MaxNumber+1)
		text := drawnText(draw.Int63(), draw.Intn(300))
		locked, ok := impl.LockText(key, num, text)
		if len(locked) != len(text)+sizeOfATag || !ok {
			t.Fatalf("LockText of %d bytes has %d, %v", len(text), len(locked), ok)
		}
		checkOpen(t, key, num, locked, text)
		checkOpen(t, strings.Clone(key), num, strings.Clone(locked), text)
	}
}

// The same bytes are hidden by the same mask, whatever stands behind them.
func TestALockHidesByItsMask(t *testing.T) {
	for _, size := range maskedOfNote() {
		mask, _ := impl.Mask("key", 300, size)
		locked, ok := impl.LockText("key", 300, strings.Repeat("\x00", size))
		if !ok || locked[:size] != mask {
			t.Errorf("%d bytes 0 are not hidden as their mask", size)
		}
	}
}

func TestLocksOutsideAreRefused(t *testing.T) {
	for _, num := range lockNumbersOutside() {
		for _, size := range []int{0, 1, 33, mostMasked, mostMasked + 1} {
			checkNoLock(t, "k", num, drawnText(89, size))
		}
	}
	for _, size := range []int{mostMasked + 1, mostMasked + 2, mostMasked + 32, 8160, 8192, 8193, impl.MaxText, impl.MaxText + 1, 100000} {
		for _, num := range []int{0, 127, 128, impl.MaxNumber} {
			checkNoLock(t, "k", num, drawnText(90, size))
			checkNoLock(t, "", num, drawnText(90, size))
		}
	}
}

func TestTooShortTextsAreNotOpened(t *testing.T) {
	for size := range sizeOfATag {
		checkShut(t, "k", 3, drawnText(91, size))
		checkShut(t, "k", 3, strings.Repeat("\x00", size))
		checkShut(t, "k", 3, unhexed(t, "bc7e70f85d0268f15314f7cf700cfc5c")[:size])
	}
}

// A text that is too long is refused, even when its last bytes are right.
func TestTooLongTextsAreNotOpened(t *testing.T) {
	for _, size := range []int{mostMasked + 1, mostMasked + 2, mostMasked + 16, 8160, 8192, impl.MaxText, 100000} {
		text := drawnText(92, size)
		checkShut(t, "k", 3, lockLike("k", 3, text))
		checkShut(t, "k", 3, text)
	}
}

func TestTextsUnderNumbersOutsideAreNotOpened(t *testing.T) {
	for _, num := range lockNumbersOutside() {
		checkShut(t, "k", num, unhexed(t, aLockedText))
		checkShut(t, "k", num, "")
		checkShut(t, "k", num, drawnText(93, 15))
		if num > 0 {
			checkShut(t, "k", num, lockLike("k", num, ""))
			checkShut(t, "k", num, lockLike("k", num, "hi"))
		}
	}
	// What an unread VarText of a refused number would leave: the word alone.
	checkShut(t, "k", -1, macLike("k", "t")[:sizeOfATag])
}

func TestATurnedBitIsNotOpened(t *testing.T) {
	for _, size := range []int{0, 1, 2, 31, 32, 33, 65} {
		locked := lockLike("k", 3, drawnText(int64(size+94), size))
		for place := range len(locked) {
			for bit := range 8 {
				turned := []byte(locked)
				turned[place] ^= 1 << bit
				checkShut(t, "k", 3, string(turned))
			}
		}
	}
}

func TestATurnedByteIsNotOpened(t *testing.T) {
	locked := unhexed(t, aLockedText)
	for place := range len(locked) {
		for by := 1; by < 256; by++ {
			turned := []byte(locked)
			turned[place] ^= byte(by)
			checkShut(t, "k", 3, string(turned))
		}
	}
	longest := lockLike("k", 3, drawnText(95, mostMasked))
	for _, place := range []int{0, 1, 31, 32, 4000, mostMasked - 1, mostMasked, mostMasked + 1, mostMasked + 15} {
		turned := []byte(longest)
		turned[place] ^= 255
		checkShut(t, "k", 3, string(turned))
	}
}

func TestAPieceOfALockedTextIsNotOpened(t *testing.T) {
	locked := lockLike("k", 3, drawnText(96, 40))
	for place := 1; place <= len(locked); place++ {
		checkShut(t, "k", 3, locked[place:])
		checkShut(t, "k", 3, locked[:len(locked)-place])
	}
	checkShut(t, "k", 3, locked+"\x00")
	checkShut(t, "k", 3, "\x00"+locked)
	checkShut(t, "k", 3, locked+locked)
}

// Only 16 bytes of a sum stand behind the text, and those of the right one.
func TestOtherSumsAreNotOpened(t *testing.T) {
	hidden, sum := unhexed(t, "0a49"), macLike("k", "t\x03\x0a\x49")
	checkOpen(t, "k", 3, hidden+sum[:16], "hi")
	checkShut(t, "k", 3, hidden+sum)
	checkShut(t, "k", 3, hidden+sum[:15])
	checkShut(t, "k", 3, hidden+sum[:17])
	checkShut(t, "k", 3, hidden+sum[16:])
	checkShut(t, "k", 3, sum[:16]+hidden)
	checkShut(t, "k", 3, hidden+macLike("k", "m\x03\x0a\x49")[:16])
	checkShut(t, "k", 3, hidden+macLike("k", "t\x0a\x49")[:16])
	checkShut(t, "k", 3, hidden+macLike("k", "t\x03hi")[:16])
	checkShut(t, "k", 3, hidden+macLike("k", "t\x03\x02\x0a\x49")[:16])
}

func TestAnotherKeyOpensNothing(t *testing.T) {
	keys := []string{"", "k", "K", "kk", "\x01", drawnText(81, 32), drawnText(82, 63), drawnText(83, 64), drawnText(84, 65), drawnText(84, 66)}
	for place, key := range keys {
		for _, text := range []string{"", "hi", drawnText(97, 33)} {
			locked, _ := impl.LockText(key, 3, text)
			for other := range keys {
				if other != place {
					checkShut(t, keys[other], 3, locked)
				}
			}
		}
	}
}

func TestAnotherNumberOpensNothing(t *testing.T) {
	for _, num := range lockNumbersOfNote() {
		for _, text := range []string{"", "hi", drawnText(98, 33)} {
			locked, _ := impl.LockText("k", num, text)
			for _, other := range lockNumbersOfNote() {
				if other != num {
					checkShut(t, "k", other, locked)
				}
			}
		}
	}
}

// Keys that a sum under a key doesn't tell apart lock alike: noughts that fill
// a block, and the digest of a key longer than one.
func TestKeysThatSumAlikeOpenAlike(t *testing.T) {
	locked := unhexed(t, aLockedText)
	checkOpen(t, "k\x00", 3, locked, "hi")
	checkOpen(t, "k"+strings.Repeat("\x00", 63), 3, locked, "hi")
	checkShut(t, "k"+strings.Repeat("\x00", 64), 3, locked)
	long := drawnText(84, 65)
	checkOpen(t, digestLike(long), 3, lockLike(long, 3, "hi"), "hi")
}

func TestRefusedLocksLeaveNothingBehind(t *testing.T) {
	for range 3 {
		checkShut(t, "k", 4, unhexed(t, aLockedText))
		checkShut(t, "k", 3, "")
		checkNoLock(t, "k", -1, "hi")
		checkLock(t, "k", 3, "hi", unhexed(t, aLockedText))
	}
}
