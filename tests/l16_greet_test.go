package tests

import (
	"encoding/binary"
	"math"
	"math/rand"
	"slices"
	"strings"
	"sync"
	"testing"

	"loop.example/g00193/impl"
)

const (
	roleFirst       = 1
	roleSecond      = 2
	stepNew         = 0
	stepSaid        = 1
	stepHeard       = 2
	stepUp          = 3
	stepBad         = 4
	mostEvents      = 60
	greatestInGroup = 2147483577
	noSignature     = "\x00\x00\x00\x00\x00\x00\x00\x00"
)

// greetFacts are what two greeters with these seeds have and say, First ahead,
// when everything comes as it was said; keys are what each has to send.
type greetFacts struct {
	seeds   []string
	secrets [2]int
	publics [2]int
	onces   [2]int
	hellos  [2]string
	proofs  [2]string
	keys    [2]string
}

// fixedGreets were worked out outside this program.
func fixedGreets(t *testing.T) []greetFacts {
	t.Helper()
	facts := []greetFacts{
		{
			seeds:   []string{"a", "b", "c", "d"},
			secrets: [2]int{secretOfA, secretOfB},
			publics: [2]int{publicOfA, publicOfB},
			onces:   [2]int{999002568, 969388011},
			hellos:  [2]string{"6801205cf870", "68024a0638c0"},
			proofs:  [2]string{"70249e77eb067f2c1a", "700f8e39162c270510"},
			keys:    [2]string{"15cea015c15897b767fbe517a00c86a3f281ae95f519882d5e559ec5b142f1fd", "ba87b2e2814e22d2fa9717907f2aaaf5490ef9bdc559bae8d6c52ae8a891d2e2"},
		},
		{
			seeds:   []string{"", "", "", ""},
			secrets: [2]int{70939016, 70939016},
			publics: [2]int{1002348785, 1002348785},
			onces:   [2]int{70939016, 70939016},
			hellos:  [2]string{"68013bbea0f1", "68023bbea0f1"},
			proofs:  [2]string{"702faefc4821ebfae4", "70038805b136dca997"},
			keys:    [2]string{"f94ae3d6396dcff9492be2b4831edd33830878f8a502a6119b058ef86ceb2a64", "3e7957fe66d51c388cd644057c9c3090a7663f3895833f6c689d5caedca57c39"},
		},
		{
			seeds:   []string{"same", "same", "once", "once"},
			secrets: [2]int{687340115, 687340115},
			publics: [2]int{1296506438, 1296506438},
			onces:   [2]int{1060076122, 1060076122},
			hellos:  [2]string{"68014da83276", "68024da83276"},
			proofs:  [2]string{"7003eea7f80763e165", "701f78136621c79c66"},
			keys:    [2]string{"15a4dffdfad45a4d4a3cfda197d81d6e1a3c7c6fa875f59e3b7aea84d08aaf4d", "07c638026fc2fe8bc0e0bb59aa9cdbfa7489b22f4c6a1799b73f79a5379f857d"},
		},
		{
			seeds:   []string{"\x00", "\xff", strings.Repeat("a", 64), strings.Repeat("b", 1000)},
			secrets: [2]int{518811265, 672581853},
			publics: [2]int{782044311, 39490583},
			onces:   [2]int{398860020, 922777727},
			hellos:  [2]string{"68015ce80ce6", "68020b751dab"},
			proofs:  [2]string{"70120e429b0aed053b", "7028b1cfa10f8d7dec"},
			keys:    [2]string{"a2cc750a920a4f4c22092ca2c73fd028e67b46f50d1b75cc810176cec6dfecb4", "d5d6bb80cc0b3cb8d9e85f7499e2a66ce454a7436cf9ebf8555b6b9299b23c56"},
		},
	}
	for place := range facts {
		f := &facts[place]
		for end := range 2 {
			f.hellos[end], f.proofs[end], f.keys[end] = unhexed(t, f.hellos[end]), unhexed(t, f.proofs[end]), unhexed(t, f.keys[end])
		}
	}
	return facts
}

func (f greetFacts) transcript() string {
	return f.hellos[0] + f.hellos[1]
}

// at is the greeter that is at this step; at StepBad it heard no Hello.
func (f greetFacts) at(end, step int) impl.Greeter {
	g := impl.Greeter{Role: end + 1, Secret: f.secrets[end], Pin: f.publics[1-end], Once: f.onces[end], Step: step}
	if step != stepNew {
		g.Mine = f.hellos[end]
	}
	if step == stepHeard || step == stepUp {
		g.Yours = f.hellos[1-end]
	}
	return g
}

// eachGreeter goes through both ends of all fixed greetings.
func eachGreeter(t *testing.T, hear func(f greetFacts, end int)) {
	t.Helper()
	for _, f := range fixedGreets(t) {
		hear(f, 0)
		hear(f, 1)
	}
}

func inGroupLike(y int) bool {
	return y > 1 && y < impl.Prime && powLike(y, impl.Order) == 1
}

func isSecretLike(secret int) bool {
	return secret > 0 && secret < impl.Order
}

func publicLike(secret int) int {
	if !isSecretLike(secret) {
		return 0
	}
	return powLike(4, secret)
}

func newGreeterLike(role int, seed, once string, pin int) (impl.Greeter, bool) {
	if role < 1 || role > 2 || !inGroupLike(pin) {
		return impl.Greeter{}, false
	}
	return impl.Greeter{Role: role, Secret: secretLike(seed), Pin: pin, Once: secretLike(once)}, true
}

func helloLike(g impl.Greeter) (impl.Greeter, string) {
	if g.Step != stepNew {
		return g, ""
	}
	g.Mine = "h" + string([]byte{byte(g.Role)}) + fourBytesLike(publicLike(g.Once))
	g.Step = stepSaid
	return g, g.Mine
}

// transcriptLike takes whoever is not First for Second; so do the others.
func transcriptLike(g impl.Greeter) string {
	texts := []string{g.Yours, g.Mine}
	if g.Role == roleFirst {
		slices.Reverse(texts)
	}
	return strings.Join(texts, "")
}

func otherRoleLike(role int) byte {
	if role == roleFirst {
		return roleSecond
	}
	return roleFirst
}

func signedProofLike(secret int, text string) string {
	if !isSecretLike(secret) {
		return "p" + noSignature
	}
	s := signLike(secret, text)
	return "p" + fourBytesLike(s.E) + fourBytesLike(s.S)
}

func proofLike(g impl.Greeter) string {
	if g.Step != stepHeard && g.Step != stepUp {
		return ""
	}
	return signedProofLike(g.Secret, transcriptLike(g)+string([]byte{byte(g.Role)}))
}

func isHelloLike(role byte, s string) bool {
	return len(s) == 6 && s[0] == 'h' && s[1] == role && inGroupLike(int(binary.BigEndian.Uint32([]byte(s[2:]))))
}

func isProofLike(pin int, signed, s string) bool {
	if len(s) != 9 || s[0] != 'p' || !inGroupLike(pin) {
		return false
	}
	e, sum := int(binary.BigEndian.Uint32([]byte(s[1:]))), int(binary.BigEndian.Uint32([]byte(s[5:])))
	if e >= impl.Order || sum >= impl.Order {
		return false
	}
	return e == challengeLike(mulLike(powLike(4, sum), powLike(pin, impl.Order-e)), pin, signed)
}

func hearGreetLike(g impl.Greeter, s string) (impl.Greeter, string) {
	other := otherRoleLike(g.Role)
	switch {
	case g.Step == stepSaid && isHelloLike(other, s):
		g.Yours, g.Step = s, stepHeard
		return g, proofLike(g)
	case g.Step == stepHeard && isProofLike(g.Pin, transcriptLike(g)+string([]byte{other}), s):
		g.Step = stepUp
	case g.Step == stepSaid || g.Step == stepHeard:
		g.Step = stepBad
	}
	return g, ""
}

// keysLike takes 0 for the shared number where there is none.
func keysLike(t *testing.T, g impl.Greeter) (string, string, bool) {
	t.Helper()
	if g.Step != stepUp {
		return "", "", false
	}
	shared := 0
	if len(g.Yours) == 6 && isSecretLike(g.Once) {
		if public := int(binary.BigEndian.Uint32([]byte(g.Yours[2:]))); inGroupLike(public) {
			shared = powLike(public, g.Once)
		}
	}
	keys := expandLike(t, fourBytesLike(shared), transcriptLike(g), 64)
	if g.Role == roleFirst {
		return keys[:32], keys[32:], true
	}
	return keys[32:], keys[:32], true
}

// greetingLike keeps all that was said, and how much of it was taken.
func greetingLike(seeds []string, events []int) ([]impl.Greeter, bool) {
	if len(seeds) != 4 || len(events) > mostEvents || slices.ContainsFunc(events, func(e int) bool { return e < 0 }) {
		return nil, false
	}
	first, _ := newGreeterLike(roleFirst, seeds[0], seeds[2], publicLike(secretLike(seeds[1])))
	second, _ := newGreeterLike(roleSecond, seeds[1], seeds[3], publicLike(secretLike(seeds[0])))
	first, ofFirst := helloLike(first)
	second, ofSecond := helloLike(second)
	ends, said, taken := []impl.Greeter{first, second}, [2][]string{{ofFirst}, {ofSecond}}, [2]int{}
	for _, e := range events {
		from := e & 1
		if taken[from] == len(said[from]) {
			continue
		}
		next, answer := hearGreetLike(ends[1-from], said[from][taken[from]])
		ends[1-from] = next
		if answer != "" {
			said[1-from] = append(said[1-from], answer)
		}
		if e&2 == 0 {
			taken[from]++
		}
	}
	return ends, true
}

// greetStepsLike tells the steps from the kinds of the texts alone: of greeters
// that pin each other nothing else counts.
func greetStepsLike(events []int) [2]int {
	said, steps := [2]string{"h", "h"}, [2]int{stepSaid, stepSaid}
	for _, e := range events {
		from, to := e%2, 1-e%2
		if said[from] == "" {
			continue
		}
		kind := said[from][0]
		if e%4 < 2 {
			said[from] = said[from][1:]
		}
		switch {
		case steps[to] == stepSaid && kind == 'h':
			steps[to], said[to] = stepHeard, said[to]+"p"
		case steps[to] == stepHeard && kind == 'p':
			steps[to] = stepUp
		case steps[to] < stepUp:
			steps[to] = stepBad
		}
	}
	return steps
}

// lendGreeter lays the greeter's texts into longer ones.
func lendGreeter(g impl.Greeter) impl.Greeter {
	g.Mine, g.Yours = inLongerText(g.Mine), inLongerText(g.Yours)
	return g
}

// checkOwnTexts bars texts that are answered from each other, too.
func checkOwnTexts(t *testing.T, what string, given []string, answered ...string) {
	t.Helper()
	checkDisjoint(t, what, append(memoryOfTexts(given, true), memoryOfTexts(answered, false)...), false)
}

func checkNew(t *testing.T, role int, seed, once string, pin int, want impl.Greeter, right bool) {
	t.Helper()
	if got, ok := impl.GreeterNew(role, seed, once, pin); got != want || ok != right {
		t.Errorf("GreeterNew(%d, %.20q, %.20q, %d) = %#v, %v; want %#v, %v", role, seed, once, pin, got, ok, want, right)
	}
}

func checkNoNew(t *testing.T, role int, seed, once string, pin int) {
	t.Helper()
	checkNew(t, role, seed, once, pin, impl.Greeter{}, false)
}

func checkHello(t *testing.T, g, want impl.Greeter, text string) {
	t.Helper()
	lent := lendGreeter(g)
	got, said := impl.Hello(lent)
	if got != want || said != text {
		t.Errorf("Hello(%#v) = %#v, %x; want %#v, %x", g, got, said, want, text)
	}
	checkOwnTexts(t, "Hello", []string{lent.Mine, lent.Yours}, got.Mine, got.Yours, said)
}

func checkNoHello(t *testing.T, g impl.Greeter) {
	t.Helper()
	checkHello(t, g, g, "")
}

func checkTranscript(t *testing.T, g impl.Greeter, want string) {
	t.Helper()
	lent := lendGreeter(g)
	got := impl.Transcript(lent)
	if got != want {
		t.Errorf("Transcript(%#v) = %x; want %x", g, got, want)
	}
	checkOwnTexts(t, "Transcript", []string{lent.Mine, lent.Yours}, got)
}

func checkProof(t *testing.T, g impl.Greeter, want string) {
	t.Helper()
	lent := lendGreeter(g)
	got := impl.Proof(lent)
	if got != want {
		t.Errorf("Proof(%#v) = %x; want %x", g, got, want)
	}
	checkOwnTexts(t, "Proof", []string{lent.Mine, lent.Yours}, got)
}

func checkHear(t *testing.T, g impl.Greeter, s string, want impl.Greeter, answer string) {
	t.Helper()
	lent, text := lendGreeter(g), inLongerText(s)
	got, said := impl.HearGreet(lent, text)
	if got != want || said != answer {
		t.Errorf("HearGreet(%#v, %.40x) = %#v, %x; want %#v, %x", g, s, got, said, want, answer)
	}
	checkOwnTexts(t, "HearGreet", []string{lent.Mine, lent.Yours, text}, got.Mine, got.Yours, said)
}

func checkHearLike(t *testing.T, g impl.Greeter, s string) impl.Greeter {
	t.Helper()
	want, answer := hearGreetLike(g, s)
	checkHear(t, g, s, want, answer)
	return want
}

func checkBad(t *testing.T, g impl.Greeter, s string) {
	t.Helper()
	bad := g
	bad.Step = stepBad
	checkHear(t, g, s, bad, "")
}

func checkHearsNothing(t *testing.T, g impl.Greeter, s string) {
	t.Helper()
	checkHear(t, g, s, g, "")
}

func checkKeys(t *testing.T, g impl.Greeter, send, open string, right bool) {
	t.Helper()
	lent := lendGreeter(g)
	gotSend, gotOpen, ok := impl.KeysOf(lent)
	if gotSend != send || gotOpen != open || ok != right {
		t.Errorf("KeysOf(%#v) = %x, %x, %v; want %x, %x, %v", g, gotSend, gotOpen, ok, send, open, right)
	}
	checkOwnTexts(t, "KeysOf", []string{lent.Mine, lent.Yours}, gotSend, gotOpen)
}

func checkNoKeys(t *testing.T, g impl.Greeter) {
	t.Helper()
	checkKeys(t, g, "", "", false)
}

// checkGreeterLike asks all that is told of a greeter without a text.
func checkGreeterLike(t *testing.T, g impl.Greeter) {
	t.Helper()
	said, text := helloLike(g)
	checkHello(t, g, said, text)
	checkTranscript(t, g, transcriptLike(g))
	checkProof(t, g, proofLike(g))
	send, open, right := keysLike(t, g)
	checkKeys(t, g, send, open, right)
}

// checkBothUp holds promise 16 against two greeters. Who is up alone has what
// the other one signed, so both heard the same then, too.
func checkBothUp(t *testing.T, a, b impl.Greeter) {
	t.Helper()
	if a.Step != stepUp && b.Step != stepUp {
		return
	}
	if a.Mine != b.Yours || b.Mine != a.Yours || impl.Transcript(a) != impl.Transcript(b) {
		t.Errorf("%#v and %#v did not hear the same", a, b)
	}
	if a.Step != b.Step {
		return
	}
	sendA, openA, okA := impl.KeysOf(a)
	sendB, openB, okB := impl.KeysOf(b)
	if !okA || !okB || sendA != openB || sendB != openA || sendA == openA || len(sendA) != 32 || len(sendB) != 32 {
		t.Errorf("%#v and %#v have the keys %x, %x, %v and %x, %x, %v", a, b, sendA, openA, okA, sendB, openB, okB)
	}
}

// checkGreeting writes into the whole of the answer, and asks again.
func checkGreeting(t *testing.T, seeds []string, events []int, want []impl.Greeter, right bool) {
	t.Helper()
	var texts []string
	for _, seed := range seeds {
		texts = append(texts, inLongerText(seed))
	}
	lentSeeds, roomSeeds := inRoom(texts, spareText)
	lentEvents, roomEvents := inRoom(events, 77)
	wereSeeds, wereEvents := slices.Clone(roomSeeds), slices.Clone(roomEvents)
	for range 2 {
		got, ok := impl.Greeting(lentSeeds, lentEvents)
		if !slices.Equal(got, want) || ok != right {
			t.Errorf("Greeting(%.20q, %v) = %#v, %v; want %#v, %v", seeds, events, got, ok, want, right)
		}
		if !slices.Equal(roomSeeds, wereSeeds) || !slices.Equal(roomEvents, wereEvents) {
			t.Errorf("Greeting wrote into its arguments: %.20q, %v", roomSeeds, roomEvents)
		}
		checkDisjoint(t, "Greeting", []memory{memoryOf(roomSeeds, true, "seeds"), memoryOf(roomEvents, true, "events"), memoryOf(got, false, "greeters")}, false)
		if len(got) == 2 {
			checkOwnTexts(t, "Greeting", roomSeeds, got[0].Mine, got[0].Yours, got[1].Mine, got[1].Yours)
			checkBothUp(t, got[0], got[1])
		}
		filled(got, impl.Greeter{Role: 77, Mine: spareText})
	}
}

func checkGreetingLike(t *testing.T, seeds []string, events []int) []impl.Greeter {
	t.Helper()
	want, right := greetingLike(seeds, events)
	checkGreeting(t, seeds, events, want, right)
	return want
}

func checkNoGreeting(t *testing.T, seeds []string, events []int) {
	t.Helper()
	checkGreeting(t, seeds, events, nil, false)
}

func stepsOutside() []int {
	return []int{-1, -2, 5, 6, 7, 255, 256, 257, 258, 259, 1 << 32, 1<<32 + 1, 1<<32 + 2, 1<<32 + 3, math.MinInt, math.MinInt + 1, math.MaxInt - 1, math.MaxInt}
}

func rolesOutside() []int {
	return []int{0, 3, -1, -2, 4, 255, 256, 257, 258, 1 << 32, 1<<32 + 1, 1<<32 + 2, math.MinInt, math.MinInt + 1, math.MaxInt}
}

// greetTexts are what may come at any step: Hellos and Proofs of all fixed
// greetings, and what is near them.
func greetTexts(t *testing.T) []string {
	t.Helper()
	texts := []string{"", "h", "p", "h\x01", "h\x02", "x", "\x00", "p" + noSignature, drawnText(201, 6), drawnText(202, 9), drawnText(203, 1000)}
	for _, f := range fixedGreets(t) {
		texts = append(texts, f.hellos[0], f.hellos[1], f.proofs[0], f.proofs[1], f.transcript())
	}
	return texts
}

func TestConstantsOfGreeters(t *testing.T) {
	if impl.First != roleFirst || impl.Second != roleSecond {
		t.Errorf("the roles are %d, %d; want 1, 2", impl.First, impl.Second)
	}
	if impl.StepNew != stepNew || impl.StepSaid != stepSaid || impl.StepHeard != stepHeard || impl.StepUp != stepUp || impl.StepBad != stepBad {
		t.Errorf("the steps are %d, %d, %d, %d, %d; want 0 to 4", impl.StepNew, impl.StepSaid, impl.StepHeard, impl.StepUp, impl.StepBad)
	}
}

func TestFixedGreetersFromNewToUp(t *testing.T) {
	eachGreeter(t, func(f greetFacts, end int) {
		checkNew(t, end+1, f.seeds[end], f.seeds[2+end], f.publics[1-end], f.at(end, stepNew), true)
		checkHello(t, f.at(end, stepNew), f.at(end, stepSaid), f.hellos[end])
		checkHear(t, f.at(end, stepSaid), f.hellos[1-end], f.at(end, stepHeard), f.proofs[end])
		checkHear(t, f.at(end, stepHeard), f.proofs[1-end], f.at(end, stepUp), "")
	})
}

func TestFixedTranscriptsProofsAndKeys(t *testing.T) {
	eachGreeter(t, func(f greetFacts, end int) {
		checkTranscript(t, f.at(end, stepNew), "")
		checkTranscript(t, f.at(end, stepSaid), f.hellos[end])
		checkTranscript(t, f.at(end, stepBad), f.hellos[end])
		for _, step := range []int{stepHeard, stepUp} {
			checkTranscript(t, f.at(end, step), f.transcript())
			checkProof(t, f.at(end, step), f.proofs[end])
		}
		checkKeys(t, f.at(end, stepUp), f.keys[end], f.keys[1-end], true)
	})
}

// The texts are told whatever the step is.
func TestTranscriptsOfAnyTexts(t *testing.T) {
	for _, step := range append(stepsOutside(), stepNew, stepSaid, stepHeard, stepUp, stepBad) {
		for _, mine := range []string{"", "m", "mine", drawnText(204, 1000)} {
			for _, yours := range []string{"", "y", "yours", drawnText(205, 1000)} {
				checkTranscript(t, impl.Greeter{Role: roleFirst, Step: step, Mine: mine, Yours: yours}, mine+yours)
				checkTranscript(t, impl.Greeter{Role: roleSecond, Step: step, Mine: mine, Yours: yours}, yours+mine)
			}
		}
	}
}

func TestNewGreeters(t *testing.T) {
	seeds := []string{"", "a", "b", "\x00", drawnText(206, 63), drawnText(207, 1000)}
	for _, pin := range []int{impl.Base, 3, 5, publicOfA, publicOfB, impl.Prime - 2, greatestInGroup} {
		for _, seed := range seeds {
			for _, once := range seeds {
				want := impl.Greeter{Role: roleFirst, Secret: secretLike(seed), Pin: pin, Once: secretLike(once)}
				checkNew(t, roleFirst, seed, once, pin, want, true)
				want.Role = roleSecond
				checkNew(t, roleSecond, seed, once, pin, want, true)
			}
		}
	}
}

// The greatest number InGroup is none but Prime - 2.
func TestTheGreatestPins(t *testing.T) {
	if greatestInGroup != impl.Prime-2 {
		t.Fatalf("%d is not Prime - 2", greatestInGroup)
	}
	for pin := impl.Prime - 40; pin < impl.Prime+40; pin++ {
		for _, role := range []int{roleFirst, roleSecond} {
			want, right := newGreeterLike(role, "a", "c", pin)
			if right != (inGroupLike(pin) && pin <= greatestInGroup) {
				t.Errorf("%d is taken as a pin", pin)
			}
			checkNew(t, role, "a", "c", pin, want, right)
		}
	}
}

func TestWrongRolesAndPins(t *testing.T) {
	for _, seed := range []string{"", "a", drawnText(208, 100)} {
		for _, role := range rolesOutside() {
			for _, pin := range append(publicsOutside(), impl.Base, publicOfA, greatestInGroup) {
				checkNoNew(t, role, seed, "c", pin)
			}
		}
		for _, pin := range publicsOutside() {
			checkNoNew(t, roleFirst, seed, "c", pin)
			checkNoNew(t, roleSecond, seed, "c", pin)
		}
	}
}

// A greeter with a pin of nobody's says Hello and Proof, but is never up with
// who has another one.
func TestGreetersWithPinsAtTheEdges(t *testing.T) {
	f := fixedGreets(t)[0]
	for _, pin := range []int{impl.Base, greatestInGroup} {
		for end := range 2 {
			g, ok := impl.GreeterNew(end+1, f.seeds[end], f.seeds[2+end], pin)
			if !ok {
				t.Fatalf("the pin %d is refused", pin)
			}
			g, _ = impl.Hello(g)
			want := f.at(end, stepHeard)
			want.Pin = pin
			checkHear(t, g, f.hellos[1-end], want, f.proofs[end])
			checkBad(t, want, f.proofs[1-end])
		}
	}
}

// Base is the Public of the secret 1, whose Proof is then taken.
func TestThePinBaseHasASecret(t *testing.T) {
	f := fixedGreets(t)[0]
	for end := range 2 {
		g := f.at(end, stepHeard)
		g.Pin = impl.Base
		proof := signedProofLike(1, f.transcript()+string([]byte{otherRoleLike(end + 1)}))
		up := g
		up.Step = stepUp
		checkHear(t, g, proof, up, "")
		checkBad(t, f.at(end, stepHeard), proof)
	}
}

func TestHelloAtOtherStepsSaysNothing(t *testing.T) {
	eachGreeter(t, func(f greetFacts, end int) {
		for _, step := range append(stepsOutside(), stepSaid, stepHeard, stepUp, stepBad) {
			checkNoHello(t, f.at(end, step))
			g := f.at(end, stepUp)
			g.Step = step
			checkNoHello(t, g)
			checkNoHello(t, impl.Greeter{Role: end + 1, Step: step})
		}
	})
	said, _ := impl.Hello(fixedGreets(t)[0].at(0, stepNew))
	checkNoHello(t, said)
}

// At StepNew a Hello is said anew, whatever Mine and Yours are.
func TestHelloPutsItsOwnInPlaceOfMine(t *testing.T) {
	eachGreeter(t, func(f greetFacts, end int) {
		g, want := f.at(end, stepNew), f.at(end, stepSaid)
		g.Mine, g.Yours, want.Yours = "another", "yours", "yours"
		checkHello(t, g, want, f.hellos[end])
	})
}

func TestHearsNothingAtOtherSteps(t *testing.T) {
	texts := greetTexts(t)
	eachGreeter(t, func(f greetFacts, end int) {
		for _, step := range append(stepsOutside(), stepNew, stepUp, stepBad) {
			heard := f.at(end, stepHeard)
			heard.Step = step
			for _, s := range texts {
				checkHearsNothing(t, f.at(end, step), s)
				checkHearsNothing(t, heard, s)
			}
		}
	})
}

// Who hears a Hello twice is bad; who hears a Proof twice is up still.
func TestWhoHearsTwice(t *testing.T) {
	eachGreeter(t, func(f greetFacts, end int) {
		heard, up := f.at(end, stepHeard), f.at(end, stepUp)
		checkBad(t, heard, f.hellos[1-end])
		checkHearsNothing(t, up, f.proofs[1-end])
		checkHearsNothing(t, up, f.hellos[1-end])
		checkHearsNothing(t, up, f.hellos[end])
		checkHearsNothing(t, up, f.proofs[end])
		checkHearsNothing(t, up, "")
		bad := heard
		bad.Step = stepBad
		checkHearsNothing(t, bad, f.hellos[1-end])
		checkHearsNothing(t, bad, f.proofs[1-end])
		checkHearsNothing(t, f.at(end, stepBad), f.hellos[1-end])
	})
}

func TestAProofAheadOfTheHello(t *testing.T) {
	eachGreeter(t, func(f greetFacts, end int) {
		checkBad(t, f.at(end, stepSaid), f.proofs[1-end])
		checkBad(t, f.at(end, stepSaid), f.proofs[end])
	})
}

func TestWrongHellos(t *testing.T) {
	eachGreeter(t, func(f greetFacts, end int) {
		right, mine := f.hellos[1-end], f.hellos[end]
		g := f.at(end, stepSaid)
		for _, s := range []string{
			"", "h", "x", right[:1], right[:2], right[:3], right[:4], right[:5], right[1:], right[2:], right[:1] + right[2:],
			right + "\x00", right + "h", "\x00" + right, "h" + right, right + right, right + mine, right[:2] + "\x00" + right[2:], right[:2] + right,
			mine, "H" + right[1:], "p" + right[1:], "\x00" + right[1:], "g" + right[1:], "i" + right[1:], "\xe8" + right[1:],
			"h\x00" + right[2:], "h\x03" + right[2:], "h" + impl.Decimal(2-end) + right[2:], "h\xff" + right[2:], "h\x81" + right[2:], "h\x82" + right[2:],
			f.proofs[end], f.proofs[1-end], f.transcript(), strings.Repeat("h", 6), strings.Repeat("\x00", 6), drawnText(209, 100000),
		} {
			checkBad(t, g, s)
		}
	})
}

func TestHellosWithNumbersAtTheEdges(t *testing.T) {
	outside := []int{0, 1, 2, 6, 8, 10, impl.Prime - 4, impl.Prime - 1, impl.Prime, impl.Prime + 1, impl.Prime + 3, impl.Prime + 4, impl.Prime + publicOfA, 2*impl.Prime + 4, 1 << 31, maxFourByte - 1, maxFourByte}
	eachGreeter(t, func(f greetFacts, end int) {
		g, head := f.at(end, stepSaid), f.hellos[1-end][:2]
		for _, n := range outside {
			checkBad(t, g, head+fourBytesLike(n))
		}
		for _, n := range []int{3, impl.Base, 5, 7, publicOfA, publicOfB, greatestInGroup, powLike(4, f.onces[end])} {
			want := f.at(end, stepHeard)
			want.Yours = head + fourBytesLike(n)
			checkHear(t, g, want.Yours, want, proofLike(want))
		}
	})
}

func TestAHelloWithOneByteTurned(t *testing.T) {
	heard := 0
	eachGreeter(t, func(f greetFacts, end int) {
		right := f.hellos[1-end]
		for place := range len(right) {
			for b := range 256 {
				if checkHearLike(t, f.at(end, stepSaid), right[:place]+string([]byte{byte(b)})+right[place+1:]).Step == stepHeard {
					heard++
				}
			}
		}
	})
	if heard < 8*4*50 {
		t.Errorf("only %d of them are heard", heard)
	}
}

func TestYoursOfBeforeIsPutOutByAHello(t *testing.T) {
	eachGreeter(t, func(f greetFacts, end int) {
		g := f.at(end, stepSaid)
		g.Yours = "an older one"
		checkHear(t, g, f.hellos[1-end], f.at(end, stepHeard), f.proofs[end])
		checkBad(t, g, f.hellos[end])
	})
}

// wrongProofs are no Proofs that the end of these two hears from the other one.
func wrongProofs(f greetFacts, end int) []string {
	right, own, other := f.proofs[1-end], string([]byte{byte(end + 1)}), string([]byte{byte(2 - end)})
	said, secret := f.transcript(), f.secrets[1-end]
	list := []string{
		"", "p", "x", "h", right[1:], right[:8], right + "\x00", right + "p", "\x00" + right, "p" + right, right + right,
		"P" + right[1:], "h" + right[1:], "q" + right[1:], "o" + right[1:], "\xf0" + right[1:], "\x00" + right[1:],
		right[:1] + right[5:] + right[1:5], "p" + noSignature, "p" + strings.Repeat("\xff", 8), "p" + right[1:5] + "\x00\x00\x00\x00", "p\x00\x00\x00\x00" + right[5:],
		f.proofs[end], f.hellos[0], f.hellos[1], said,
		// Another Role, and none.
		signedProofLike(secret, said+own), signedProofLike(secret, said), signedProofLike(secret, other+said), signedProofLike(secret, said+impl.Decimal(2-end)), signedProofLike(secret, said+other+other), signedProofLike(secret, said+"\x00"),
		// Another Transcript.
		signedProofLike(secret, f.hellos[1]+f.hellos[0]+other), signedProofLike(secret, f.hellos[0]+other), signedProofLike(secret, f.hellos[1]+other), signedProofLike(secret, other), signedProofLike(secret, said+said+other), signedProofLike(secret, ""),
		signedProofLike(secret, f.hellos[0]+"h\x02\x00\x00\x00\x04"+other), signedProofLike(secret, "h\x01\x00\x00\x00\x04"+f.hellos[1]+other),
		drawnText(210, 9), "p" + drawnText(211, 8), "p" + drawnText(212, 100000),
	}
	// Another secret, the one for this greeting alone among them.
	for _, another := range []int{1, 2, impl.Order - 1, secret + 1, secret - 1, f.onces[0], f.onces[1]} {
		if another != secret {
			list = append(list, signedProofLike(another, said+other))
		}
	}
	return list
}

func TestWrongProofs(t *testing.T) {
	eachGreeter(t, func(f greetFacts, end int) {
		for _, s := range wrongProofs(f, end) {
			checkBad(t, f.at(end, stepHeard), s)
		}
	})
}

// Numbers that are the same modulo Order are another text.
func TestProofsWithNumbersOfOrderOrMore(t *testing.T) {
	eachGreeter(t, func(f greetFacts, end int) {
		right := f.proofs[1-end]
		e, s := int(binary.BigEndian.Uint32([]byte(right[1:]))), int(binary.BigEndian.Uint32([]byte(right[5:])))
		for _, by := range []int{impl.Order, 2 * impl.Order} {
			checkBad(t, f.at(end, stepHeard), "p"+fourBytesLike(e+by)+fourBytesLike(s))
			checkBad(t, f.at(end, stepHeard), "p"+fourBytesLike(e)+fourBytesLike(s+by))
			checkBad(t, f.at(end, stepHeard), "p"+fourBytesLike(e+by)+fourBytesLike(s+by))
		}
	})
}

// The numbers are such that the signature of noughts is right: a text that is
// none must not be taken for it.
func TestAProofThatIsASignatureOfNoughts(t *testing.T) {
	for _, number := range []int{973965391, 1158944626} {
		g := fixedGreets(t)[0].at(0, stepHeard)
		g.Yours = "h\x02" + fourBytesLike(number)
		up := g
		up.Step = stepUp
		checkHear(t, g, "p"+noSignature, up, "")
		for _, s := range []string{"", "p", noSignature, "p" + noSignature[1:], "p\x00" + noSignature, "h" + noSignature, "\x00" + noSignature, "p" + fourBytesLike(impl.Order) + noSignature[:4], "p" + strings.Repeat("\xff", 8), g.Yours, g.Mine, impl.Proof(g)} {
			checkBad(t, g, s)
		}
	}
}

func TestAProofOfEveryLength(t *testing.T) {
	eachGreeter(t, func(f greetFacts, end int) {
		right := f.proofs[1-end]
		for cut := range len(right) {
			checkBad(t, f.at(end, stepHeard), right[:cut])
			checkBad(t, f.at(end, stepHeard), right[:cut]+right[cut+1:])
			checkBad(t, f.at(end, stepHeard), right[:cut]+right[cut:cut+1]+right[cut:])
			checkBad(t, f.at(end, stepHeard), right[:cut]+"\x00"+right[cut:])
			if cut > 0 {
				checkBad(t, f.at(end, stepHeard), right[cut:])
			}
		}
	})
}

func TestAProofWithOneByteTurned(t *testing.T) {
	eachGreeter(t, func(f greetFacts, end int) {
		right := f.proofs[1-end]
		for place := range len(right) {
			for by := 1; by < 256; by++ {
				checkBad(t, f.at(end, stepHeard), right[:place]+string([]byte{right[place] ^ byte(by)})+right[place+1:])
			}
		}
	})
}

// The Proof of one greeting is none of another one with the same lasting
// secrets.
func TestAProofOfAnotherGreeting(t *testing.T) {
	for _, f := range fixedGreets(t) {
		for end := range 2 {
			for _, once := range []string{"other", "c2", f.seeds[2] + "x"} {
				seeds := slices.Clone(f.seeds)
				seeds[2+end] = once
				again, _ := greetingLike(seeds, []int{0, 1})
				checkHearLike(t, again[end], f.proofs[1-end])
				checkBad(t, again[end], f.proofs[1-end])
				checkBad(t, again[1-end], f.proofs[end])
			}
		}
	}
}

// Whoever gives itself out for one of both has not the secret of the pin.
func TestAThirdOneIsNotTaken(t *testing.T) {
	for end := range 2 {
		f := fixedGreets(t)[0]
		g := f.at(end, stepSaid)
		third, ok := impl.GreeterNew(2-end, "third", "its own", f.publics[end])
		if !ok {
			t.Fatal("the third one is refused")
		}
		third, hello := impl.Hello(third)
		g, proof := impl.HearGreet(g, hello)
		third, wrong := impl.HearGreet(third, f.hellos[end])
		checkBad(t, g, wrong)
		// It believes the other one, all the same: that one's Proof is right.
		if third, _ = impl.HearGreet(third, proof); third.Step != stepUp {
			t.Errorf("%#v is not up", third)
		}
	}
}

// Who stands between puts numbers of its own in place of both: what they heard
// is not the same, and neither is up.
func TestNumbersPutInBetweenAreFound(t *testing.T) {
	for _, f := range fixedGreets(t) {
		between := fourBytesLike(powLike(4, 12345))
		first, ofFirst := impl.HearGreet(f.at(0, stepSaid), "h\x02"+between)
		second, ofSecond := impl.HearGreet(f.at(1, stepSaid), "h\x01"+between)
		checkBad(t, first, ofSecond)
		checkBad(t, second, ofFirst)
		// It is enough that one of both heard another number.
		checkBad(t, f.at(0, stepHeard), ofSecond)
		checkBad(t, second, f.proofs[0])
	}
}

func TestProofsAndKeysAtEachStep(t *testing.T) {
	eachGreeter(t, func(f greetFacts, end int) {
		for _, step := range append(stepsOutside(), stepNew, stepSaid, stepBad) {
			heard := f.at(end, stepHeard)
			heard.Step = step
			for _, g := range []impl.Greeter{f.at(end, step), heard, {Step: step}} {
				checkProof(t, g, "")
				checkNoKeys(t, g)
			}
		}
		checkNoKeys(t, f.at(end, stepHeard))
	})
}

func TestTwoGreetByHand(t *testing.T) {
	draw := rand.New(rand.NewSource(213))
	for range 300 {
		var seeds []string
		for range 4 {
			seeds = append(seeds, drawnText(draw.Int63(), draw.Intn(80)))
		}
		first, _ := impl.GreeterNew(impl.First, seeds[0], seeds[2], impl.PublicOf(impl.SecretOf(seeds[1])))
		second, _ := impl.GreeterNew(impl.Second, seeds[1], seeds[3], impl.PublicOf(impl.SecretOf(seeds[0])))
		first, ofFirst := impl.Hello(first)
		second, ofSecond := impl.Hello(second)
		first, proofOfFirst := impl.HearGreet(first, ofSecond)
		second, proofOfSecond := impl.HearGreet(second, ofFirst)
		if proofOfFirst != impl.Proof(first) || proofOfSecond != impl.Proof(second) {
			t.Errorf("the answers of %q are no Proofs", seeds)
		}
		first, none := impl.HearGreet(first, proofOfSecond)
		second, nor := impl.HearGreet(second, proofOfFirst)
		if first.Step != impl.StepUp || second.Step != impl.StepUp || none != "" || nor != "" {
			t.Errorf("%q end at %#v and %#v", seeds, first, second)
		}
		checkBothUp(t, first, second)
		checkGreeterLike(t, first)
		checkGreeterLike(t, second)
		checkGreeting(t, seeds, []int{0, 1, 0, 1}, []impl.Greeter{first, second}, true)
	}
}

func TestFixedGreetings(t *testing.T) {
	for _, f := range fixedGreets(t) {
		for _, c := range []struct {
			events []int
			steps  [2]int
		}{
			{nil, [2]int{stepSaid, stepSaid}},
			{[]int{}, [2]int{stepSaid, stepSaid}},
			{[]int{0}, [2]int{stepSaid, stepHeard}},
			{[]int{1}, [2]int{stepHeard, stepSaid}},
			{[]int{2}, [2]int{stepSaid, stepHeard}},
			{[]int{3}, [2]int{stepHeard, stepSaid}},
			{[]int{0, 1}, [2]int{stepHeard, stepHeard}},
			{[]int{1, 0}, [2]int{stepHeard, stepHeard}},
			{[]int{0, 1, 0}, [2]int{stepHeard, stepUp}},
			{[]int{0, 1, 1}, [2]int{stepUp, stepHeard}},
			{[]int{1, 0, 0}, [2]int{stepHeard, stepUp}},
			{[]int{1, 0, 1}, [2]int{stepUp, stepHeard}},
			{[]int{0, 1, 0, 1}, [2]int{stepUp, stepUp}},
			{[]int{0, 1, 1, 0}, [2]int{stepUp, stepUp}},
			{[]int{1, 0, 0, 1}, [2]int{stepUp, stepUp}},
			{[]int{1, 0, 1, 0}, [2]int{stepUp, stepUp}},
			// Nothing was said that was not taken yet.
			{[]int{0, 0}, [2]int{stepSaid, stepHeard}},
			{[]int{0, 2, 0, 2}, [2]int{stepSaid, stepHeard}},
			{[]int{1, 1, 3, 1}, [2]int{stepHeard, stepSaid}},
			{[]int{0, 0, 1, 1}, [2]int{stepUp, stepHeard}},
			{[]int{1, 1, 0, 0}, [2]int{stepHeard, stepUp}},
			{[]int{0, 0, 1, 1, 0}, [2]int{stepUp, stepUp}},
			{[]int{0, 1, 0, 1, 0, 1, 2, 3, 4, 7}, [2]int{stepUp, stepUp}},
			// A Hello that stays comes again at StepHeard.
			{[]int{2, 2}, [2]int{stepSaid, stepBad}},
			{[]int{2, 0}, [2]int{stepSaid, stepBad}},
			{[]int{3, 3}, [2]int{stepBad, stepSaid}},
			{[]int{3, 1}, [2]int{stepBad, stepSaid}},
			{[]int{2, 1, 1}, [2]int{stepUp, stepHeard}},
			{[]int{2, 1, 1, 0}, [2]int{stepUp, stepBad}},
			{[]int{2, 3, 0, 1}, [2]int{stepBad, stepBad}},
			// A Proof that stays comes again at StepUp.
			{[]int{0, 1, 2}, [2]int{stepHeard, stepUp}},
			{[]int{0, 1, 2, 2, 2, 0, 0}, [2]int{stepHeard, stepUp}},
			{[]int{0, 1, 3, 3, 3, 1, 1}, [2]int{stepUp, stepHeard}},
			{[]int{0, 1, 2, 3, 0, 1}, [2]int{stepUp, stepUp}},
			{[]int{0, 1, 2, 3, 2, 3, 2, 3}, [2]int{stepUp, stepUp}},
			// Whose Hello stays has its Proof behind it, which is not heard.
			{[]int{1, 2, 0, 0, 0}, [2]int{stepHeard, stepBad}},
		} {
			want := []impl.Greeter{f.at(0, c.steps[0]), f.at(1, c.steps[1])}
			for end := range want {
				if want[end].Step == stepBad {
					want[end].Yours = f.hellos[1-end]
				}
			}
			checkGreeting(t, f.seeds, c.events, want, true)
		}
	}
}

// Each event is the one of its rest modulo 4.
func TestEventsModuloFour(t *testing.T) {
	for _, f := range fixedGreets(t)[:2] {
		for _, events := range [][]int{{0}, {1}, {2}, {3}, {0, 1, 0, 1}, {1, 0, 0, 1}, {2, 0, 1, 1}, {0, 1, 2, 3, 0, 1}, {0, 3, 1, 1, 0}} {
			want, _ := greetingLike(f.seeds, events)
			for _, by := range []int{4, 8, 40, 1 << 32, 1 << 62, math.MaxInt - 7, math.MaxInt - 3} {
				var great []int
				for _, e := range events {
					great = append(great, e+by)
				}
				checkGreeting(t, f.seeds, great, want, true)
				checkGreeting(t, f.seeds, slices.Concat(events[:1], great[1:]), want, true)
			}
		}
		up, _ := greetingLike(f.seeds, []int{0, 1, 0, 1})
		checkGreeting(t, f.seeds, []int{4, 1, 8, 5}, up, true)
		checkGreeting(t, f.seeds, []int{math.MaxInt - 3, math.MaxInt - 2, math.MaxInt - 3, math.MaxInt - 2}, up, true)
		stayed, _ := greetingLike(f.seeds, []int{0, 1, 3, 2})
		checkGreeting(t, f.seeds, []int{4, 1, 7, 6}, stayed, true)
		checkGreeting(t, f.seeds, []int{4, 1, math.MaxInt, math.MaxInt - 1}, stayed, true)
	}
}

// eachEvents goes through all lists of so many of the four events.
func eachEvents(most int, hear func([]int)) {
	var try func(events []int)
	try = func(events []int) {
		hear(events)
		if len(events) < most {
			for e := range 4 {
				try(append(slices.Clone(events), e))
			}
		}
	}
	try(nil)
}

func TestAllListsOfSixEvents(t *testing.T) {
	seeds, both := []string{"a", "b", "c", "d"}, 0
	eachEvents(6, func(events []int) {
		want := checkGreetingLike(t, seeds, events)
		if steps := greetStepsLike(events); want[0].Step != steps[0] || want[1].Step != steps[1] {
			t.Errorf("%v ends at %d, %d; want %d", events, want[0].Step, want[1].Step, steps)
		}
		if want[0].Step == stepUp && want[1].Step == stepUp {
			both++
		}
	})
	if both < 100 {
		t.Errorf("only %d of them end with both up", both)
	}
}

func TestDrawnGreetings(t *testing.T) {
	draw := rand.New(rand.NewSource(214))
	ends := map[[2]int]int{}
	for range 3000 {
		var seeds []string
		for range 4 {
			seeds = append(seeds, drawnText(int64(draw.Intn(20)), draw.Intn(6)))
		}
		kinds := [][]int{{0, 1}, {0, 1, 0, 1, 0, 1, 2, 3}, {0, 1, 2, 3}, {2, 3}}[draw.Intn(4)]
		var events []int
		for range draw.Intn(mostEvents + 1) {
			events = append(events, kinds[draw.Intn(len(kinds))]+4*draw.Intn(1000))
		}
		want := checkGreetingLike(t, seeds, events)
		steps := [2]int{want[0].Step, want[1].Step}
		if steps != greetStepsLike(events) {
			t.Errorf("%v ends at %d; want %d", events, steps, greetStepsLike(events))
		}
		ends[steps]++
	}
	for _, steps := range [][2]int{{stepUp, stepUp}, {stepBad, stepBad}, {stepUp, stepBad}, {stepBad, stepUp}} {
		if ends[steps] < 20 {
			t.Errorf("only %d end at %d", ends[steps], steps)
		}
	}
}

func TestGreetingsOfSoManyEvents(t *testing.T) {
	seeds := fixedGreets(t)[0].seeds
	for count := range 130 {
		for _, e := range []int{0, 1, 3, 6} {
			events := append([]int{0, 1, 0, 1}, slices.Repeat([]int{e}, count)...)[:count]
			if count > mostEvents {
				checkNoGreeting(t, seeds, events)
			} else {
				checkGreetingLike(t, seeds, events)
			}
		}
	}
	full := slices.Repeat([]int{0, 1}, 30)
	up, _ := greetingLike(seeds, []int{0, 1, 0, 1})
	checkGreeting(t, seeds, full, up, true)
	checkNoGreeting(t, seeds, append(full, 0))
	checkNoGreeting(t, seeds, make([]int, 100000))
}

func TestEventsBelowNought(t *testing.T) {
	seeds := fixedGreets(t)[0].seeds
	for _, wrong := range []int{-1, -2, -3, -4, -5, -8, -1 << 32, math.MinInt, math.MinInt + 1} {
		for size := 1; size <= mostEvents; size += 7 {
			for place := range size {
				events := slices.Repeat([]int{0, 1}, mostEvents)[:size]
				events[place] = wrong
				checkNoGreeting(t, seeds, events)
			}
		}
		checkNoGreeting(t, seeds, slices.Repeat([]int{wrong}, mostEvents+1))
	}
}

func TestGreetingsOfSoManySeeds(t *testing.T) {
	for count := range 30 {
		seeds := namedTexts("seed", count)
		for _, events := range [][]int{nil, {0}, {0, 1, 0, 1}, {3, 2, 1, 0}, slices.Repeat([]int{0, 1}, 30)} {
			if count == 4 {
				checkGreetingLike(t, seeds, events)
			} else {
				checkNoGreeting(t, seeds, events)
			}
		}
		checkNoGreeting(t, seeds, []int{0, 1, -1})
		checkNoGreeting(t, seeds, make([]int, mostEvents+1))
	}
	checkNoGreeting(t, nil, nil)
	checkNoGreeting(t, make([]string, 0, 4), []int{0, 1, 0, 1})
	checkGreetingLike(t, make([]string, 4), []int{0, 1, 0, 1})
}

// Each of the four seeds is told by what it changes.
func TestEachSeedOfAGreeting(t *testing.T) {
	base := []string{"a", "b", "c", "d"}
	events := []int{0, 1, 0, 1}
	were, _ := greetingLike(base, events)
	for place := range base {
		seeds := slices.Clone(base)
		seeds[place] = drawnText(215, 5000)
		got := checkGreetingLike(t, seeds, events)
		end := place % 2
		if (got[end].Secret == were[end].Secret) != (place > 1) || (got[1-end].Pin == were[1-end].Pin) != (place > 1) || (got[end].Once == were[end].Once) != (place < 2) {
			t.Errorf("seed %d makes %#v of %#v", place, got, were)
		}
	}
}

// The chapter bars no greeter: one that GreeterNew did not make is taken as its
// words have it, and what is not there counts as nought.
func TestGreetersMadeByHand(t *testing.T) {
	keysOfNothing := unhexed(t, "3d7afb663124ecbf2c953f863d4fc8796eeb2d372b64aad58697ec5264649cdb8eb20d0e5acf7134b680fd516e14798b43533b5a5d1b99b38d743eb401907405")
	checkHello(t, impl.Greeter{}, impl.Greeter{Step: stepSaid, Mine: "h\x00\x00\x00\x00\x00"}, "h\x00\x00\x00\x00\x00")
	checkKeys(t, impl.Greeter{Role: roleFirst, Step: stepUp}, keysOfNothing[:32], keysOfNothing[32:], true)
	checkKeys(t, impl.Greeter{Role: roleSecond, Step: stepUp}, keysOfNothing[32:], keysOfNothing[:32], true)
	for _, secret := range secretsOutside() {
		for _, role := range []int{roleFirst, roleSecond} {
			checkProof(t, impl.Greeter{Role: role, Secret: secret, Step: stepHeard}, "p"+noSignature)
			checkProof(t, impl.Greeter{Role: role, Secret: secret, Step: stepUp}, "p"+noSignature)
			hello := "h" + string([]byte{byte(role)}) + "\x00\x00\x00\x00"
			checkHello(t, impl.Greeter{Role: role, Once: secret}, impl.Greeter{Role: role, Once: secret, Step: stepSaid, Mine: hello}, hello)
		}
	}
	for _, pin := range publicsOutside() {
		g := fixedGreets(t)[0].at(0, stepHeard)
		g.Pin = pin
		checkBad(t, g, fixedGreets(t)[0].proofs[1])
	}
}

func drawnGreeter(t *testing.T, draw *rand.Rand) impl.Greeter {
	t.Helper()
	facts := fixedGreets(t)
	f, end := facts[draw.Intn(len(facts))], draw.Intn(2)
	g := f.at(end, []int{stepNew, stepSaid, stepHeard, stepHeard, stepUp, stepUp, stepBad}[draw.Intn(7)])
	for range draw.Intn(3) {
		switch draw.Intn(7) {
		case 0:
			g.Role = append(rolesOutside(), roleFirst, roleSecond)[draw.Intn(17)]
		case 1:
			g.Secret = append(secretsOutside(), secretOfA)[draw.Intn(22)]
		case 2:
			g.Pin = append(publicsOutside(), publicOfB, greatestInGroup)[draw.Intn(26)]
		case 3:
			g.Once = append(secretsOutside(), secretOfB)[draw.Intn(22)]
		case 4:
			g.Step = append(stepsOutside(), stepSaid, stepHeard)[draw.Intn(20)]
		case 5:
			g.Mine = drawnText(draw.Int63(), draw.Intn(10))
		case 6:
			g.Yours = append(greetTexts(t), "h\x01"+drawnText(draw.Int63(), 4), drawnText(draw.Int63(), draw.Intn(10)))[draw.Intn(33)]
		}
	}
	return g
}

func TestDrawnGreeters(t *testing.T) {
	draw := rand.New(rand.NewSource(216))
	texts, steps := greetTexts(t), map[int]int{}
	for range 5000 {
		g := drawnGreeter(t, draw)
		checkGreeterLike(t, g)
		s := texts[draw.Intn(len(texts))]
		switch draw.Intn(4) {
		case 0:
			s = "h" + string([]byte{otherRoleLike(g.Role)}) + fourBytesLike(powLike(4, draw.Intn(impl.Order)))
		case 1:
			f := fixedGreets(t)[draw.Intn(4)]
			secret := f.secrets[draw.Intn(2)]
			g.Pin = powLike(4, secret)
			s = signedProofLike(secret, transcriptLike(g)+string([]byte{otherRoleLike(g.Role)}))
		}
		steps[checkHearLike(t, g, s).Step]++
	}
	for _, step := range []int{stepNew, stepHeard, stepUp, stepBad} {
		if steps[step] < 100 {
			t.Errorf("only %d are at the step %d", steps[step], step)
		}
	}
}

func TestRefusedGreetingsLeaveNothingBehind(t *testing.T) {
	f := fixedGreets(t)[0]
	for range 3 {
		checkNoNew(t, 3, "x", "y", publicOfA)
		checkNoGreeting(t, []string{"x", "y", "z"}, []int{0, 1})
		checkNoGreeting(t, f.seeds, []int{0, 1, 0, -1})
		checkBad(t, f.at(0, stepSaid), f.hellos[0])
		checkBad(t, f.at(1, stepHeard), f.proofs[1])
		checkGreeting(t, f.seeds, []int{0}, []impl.Greeter{f.at(0, stepSaid), f.at(1, stepHeard)}, true)
		checkGreeting(t, f.seeds, []int{0, 1, 0, 1}, []impl.Greeter{f.at(0, stepUp), f.at(1, stepUp)}, true)
		checkHear(t, f.at(0, stepSaid), f.hellos[1], f.at(0, stepHeard), f.proofs[0])
	}
}

// The seeds may lie in one memory, and be the same list as each other's.
func TestGreetingsInOneMemory(t *testing.T) {
	text := "abcd"
	seeds := []string{text[:1], text[1:2], text[2:3], text[3:]}
	f := fixedGreets(t)[0]
	got, ok := impl.Greeting(seeds, []int{0, 1, 0, 1})
	if want := []impl.Greeter{f.at(0, stepUp), f.at(1, stepUp)}; !ok || !slices.Equal(got, want) {
		t.Errorf("Greeting(%q) = %#v, %v; want %#v", seeds, got, ok, want)
	}
	again, _ := impl.Greeting(seeds, []int{0, 1, 0, 1})
	checkDisjoint(t, "two greetings", []memory{memoryOf(got, false, "one"), memoryOf(again, false, "the other one")}, false)
}

// What is heard may be the greeter's own text, in its own memory.
func TestAGreeterHearsItsOwnTexts(t *testing.T) {
	eachGreeter(t, func(f greetFacts, end int) {
		for _, step := range []int{stepSaid, stepHeard} {
			g := lendGreeter(f.at(end, step))
			for _, s := range []string{g.Mine, g.Yours} {
				want, answer := hearGreetLike(g, s)
				got, said := impl.HearGreet(g, s)
				if got != want || got.Step != stepBad || said != answer {
					t.Errorf("HearGreet(%#v, %x) = %#v, %x; want %#v, %x", g, s, got, said, want, answer)
				}
				checkOwnTexts(t, "HearGreet", []string{g.Mine, g.Yours}, got.Mine, got.Yours, said)
			}
		}
	})
}

func TestManyGreetAtOnce(t *testing.T) {
	var all sync.WaitGroup
	facts := fixedGreets(t)
	for range 8 {
		all.Go(func() {
			for range 20 {
				for _, f := range facts {
					want := []impl.Greeter{f.at(0, stepUp), f.at(1, stepUp)}
					got, ok := impl.Greeting(f.seeds, []int{1, 0, 0, 1})
					if !ok || !slices.Equal(got, want) {
						t.Errorf("Greeting(%.20q) = %#v, %v; want %#v", f.seeds, got, ok, want)
						return
					}
					if send, open, ok := impl.KeysOf(got[0]); send != f.keys[0] || open != f.keys[1] || !ok {
						t.Errorf("KeysOf(%#v) = %x, %x, %v", got[0], send, open, ok)
					}
				}
			}
		})
	}
	all.Wait()
}
