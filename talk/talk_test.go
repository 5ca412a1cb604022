package talk_test

import (
	"bytes"
	"math"
	"math/rand"
	"slices"
	"testing"

	"lockwright/api"
	"lockwright/talk"
)

const (
	most = int64(api.MaxNum)
	mod  = int64(api.MaxMod)
	// lastPrime is the greatest prime up to MaxMod, nextPrime the least above it.
	lastPrime = int64(1048573)
	nextPrime = int64(1048583)
)

// example is the document's group.
var example = api.Group{P: 7, Q: 3, G: 2, H: 4}

// wide is the group with the greatest Q.
var wide = api.Group{P: 1048343, Q: 524171, G: 4, H: 9}

// far: what is beyond every limit here, and what would not be if it wrapped round.
var far = []int64{mod + 1, mod + 2, nextPrime, 1 << 21, most, most + 1, 1 << 32, 1<<32 + 1, 1<<32 + 2, 1<<32 + 7, math.MaxInt64, math.MinInt64, math.MinInt64 + 1, -1, -2, -3, -mod}

// noGroups: numbers within their limits that are no groups.
var noGroups = []api.Group{{P: 7, Q: 3, G: 3, H: 4}, {P: 7, Q: 3, G: 2, H: 3}, {P: 7, Q: 6, G: 3, H: 5}, {P: 9, Q: 2, G: 8, H: 8}, {P: 7, Q: 5, G: 2, H: 4}, {P: 15, Q: 2, G: 4, H: 11}}

// isPrime tries every number up to the root of n.
func isPrime(n int64) bool {
	for d := int64(2); d*d <= n; d++ {
		if n%d == 0 {
			return false
		}
	}
	return n > 1
}

// pow answers what x^k leaves, divided by m, by squaring.
func pow(x, k, m int64) int64 {
	if k == 0 {
		return 1 % m
	}
	half := pow(x, k/2, m)
	if k%2 == 0 {
		return half * half % m
	}
	return half * half % m * x % m
}

func isMember(g api.Group, x int64) bool {
	return x >= 1 && x < g.P && pow(x, g.Q, g.P) == 1
}

// groupsTo answers all groups with a P up to most.
func groupsTo(most int64) []api.Group {
	var list []api.Group
	for p := int64(3); p <= most; p++ {
		for q := int64(2); q < p; q++ {
			if !isPrime(p) || !isPrime(q) || (p-1)%q != 0 {
				continue
			}
			for n := range (p - 2) * (p - 2) {
				k := api.Group{P: p, Q: q, G: n%(p-2) + 2, H: n/(p-2) + 2}
				if isMember(k, k.G) && isMember(k, k.H) {
					list = append(list, k)
				}
			}
		}
	}
	return list
}

// greatGroup: a group near the limits, and the number by whose power of G its H is.
type greatGroup struct {
	api.Group
	log int64
}

// greatGroups: of some primes P near MaxMod, with each prime Q that P - 1 has, and some powers of G.
func greatGroups() []greatGroup {
	var list []greatGroup
	count := 0
	for p := lastPrime; count < 6; p-- {
		if !isPrime(p) {
			continue
		}
		count++
		for q := int64(2); q < p; q++ {
			if (p-1)%q != 0 || !isPrime(q) {
				continue
			}
			g := int64(1)
			for x := int64(2); g == 1; x++ {
				g = pow(x, (p-1)/q, p)
			}
			for _, log := range []int64{1, q - 1, (q + 1) / 2} {
				list = append(list, greatGroup{api.Group{P: p, Q: q, G: g, H: pow(g, log, p)}, log})
			}
		}
	}
	return list
}

func inRange(g api.Group, numbers ...int64) bool {
	for _, n := range numbers {
		if n < 0 || n >= g.Q {
			return false
		}
	}
	return true
}

// holds goes through W1's words.
func holds(g api.Group, public int64, t api.Talk) bool {
	return pow(g.G, t.Answer, g.P) == t.First*pow(public, t.Asked, g.P)%g.P
}

// secretOf goes through all the powers of G.
func secretOf(g api.Group, public int64) int64 {
	for k := range g.Q {
		if pow(g.G, k, g.P) == public {
			return k
		}
	}
	return -1
}

// only goes through all that First might be; that there is more than one is told as -1.
func only(g api.Group, public, asked, answer int64) int64 {
	found := int64(0)
	for x := int64(1); x < g.P; x++ {
		switch {
		case !isMember(g, x) || !holds(g, public, api.Talk{First: x, Asked: asked, Answer: answer}):
		case found != 0:
			return -1
		default:
			found = x
		}
	}
	return found
}

// sum goes through the words on hash's Sum.
func sum(text []byte) int64 {
	h := uint64(0)
	step := func(b byte) {
		x := (h ^ uint64(b)) * 40503 % 65536
		h = x ^ x/128
	}
	for _, b := range text {
		step(b)
	}
	n := len(text)
	for range 4 {
		step(byte(n % 256))
		n /= 256
	}
	return int64(h)
}

func fourBytes(x int64) []byte {
	return []byte{byte(x % 256), byte(x / 256 % 256), byte(x / 65536 % 256), byte(x / 16777216)}
}

// asks goes through W3's words.
func asks(g api.Group, first, public int64, text []byte) int64 {
	return sum(slices.Concat(fourBytes(first), fourBytes(public), text)) % g.Q
}

func askSpeak(t *testing.T, g api.Group, secret, k, asked int64, want api.Talk, wrong api.Errno) {
	t.Helper()
	if x, e := talk.Speak(g, secret, k, asked); x != want || e != wrong {
		t.Errorf("Speak(%v, %d, %d, %d) = %v, %d; want %v, %d", g, secret, k, asked, x, e, want, wrong)
	}
}

func askCheck(t *testing.T, g api.Group, public int64, x api.Talk, want bool, wrong api.Errno) {
	t.Helper()
	if is, e := talk.Check(g, public, x); is != want || e != wrong {
		t.Errorf("Check(%v, %d, %v) = %v, %d; want %v, %d", g, public, x, is, e, want, wrong)
	}
}

func askExtract(t *testing.T, g api.Group, public int64, x, y api.Talk, want int64, wrong api.Errno) {
	t.Helper()
	if secret, e := talk.Extract(g, public, x, y); secret != want || e != wrong {
		t.Errorf("Extract(%v, %d, %v, %v) = %d, %d; want %d, %d", g, public, x, y, secret, e, want, wrong)
	}
}

func askFeign(t *testing.T, g api.Group, public, asked, answer int64, want api.Talk, wrong api.Errno) {
	t.Helper()
	if x, e := talk.Feign(g, public, asked, answer); x != want || e != wrong {
		t.Errorf("Feign(%v, %d, %d, %d) = %v, %d; want %v, %d", g, public, asked, answer, x, e, want, wrong)
	}
}

func askSign(t *testing.T, g api.Group, secret, k int64, text []byte, want api.Talk, wrong api.Errno) {
	t.Helper()
	if x, e := talk.Sign(g, secret, k, text); x != want || e != wrong {
		t.Errorf("Sign(%v, %d, %d, %d bytes) = %v, %d; want %v, %d", g, secret, k, len(text), x, e, want, wrong)
	}
}

func askVerify(t *testing.T, g api.Group, public int64, text []byte, x api.Talk, want bool, wrong api.Errno) {
	t.Helper()
	if is, e := talk.Verify(g, public, text, x); is != want || e != wrong {
		t.Errorf("Verify(%v, %d, %d bytes, %v) = %v, %d; want %v, %d", g, public, len(text), x, is, e, want, wrong)
	}
}

// texts: none, a short one, the longest, and one that is too long.
func texts() [][]byte {
	return [][]byte{nil, []byte("abc"), make([]byte, api.MaxText-8), make([]byte, api.MaxText-7)}
}

// askAll asks every call with the number k at each place of a power, and x as each member, for an error ahead of ErrForm.
func askAll(t *testing.T, g api.Group, k, x int64, wrong api.Errno) {
	t.Helper()
	none := api.Talk{}
	for _, n := range []int64{0, 1, k} {
		askSpeak(t, g, k, n, 0, none, wrong)
		askSpeak(t, g, n, k, n, none, wrong)
		askSpeak(t, g, 0, n, k, none, wrong)
		askFeign(t, g, x, k, n, none, wrong)
		askFeign(t, g, x, n, k, none, wrong)
		for _, bad := range []api.Talk{{First: x, Asked: k, Answer: n}, {First: x, Asked: n, Answer: k}, {First: 1, Asked: n, Answer: k}} {
			askCheck(t, g, x, bad, false, wrong)
			askCheck(t, g, 1, bad, false, wrong)
			askExtract(t, g, x, bad, api.Talk{First: x}, 0, wrong)
			askExtract(t, g, x, api.Talk{First: x}, bad, 0, wrong)
			askExtract(t, g, 1, api.Talk{First: 1, Asked: 1}, bad, 0, wrong)
			for _, text := range texts() {
				askVerify(t, g, x, text, bad, false, wrong)
			}
		}
		for _, text := range texts() {
			askSign(t, g, k, n, text, none, wrong)
			askSign(t, g, n, k, text, none, wrong)
		}
	}
}

// askForms asks every call with x, which is no member, at each place of a member.
func askForms(t *testing.T, g api.Group, x int64) {
	t.Helper()
	for _, k := range []int64{0, 1, g.Q - 1} {
		askFeign(t, g, x, k, 0, api.Talk{}, api.ErrForm)
		askFeign(t, g, x, 0, k, api.Talk{}, api.ErrForm)
		for _, bad := range []api.Talk{{First: x, Asked: k}, {First: x, Answer: k}} {
			fine := api.Talk{First: 1, Asked: bad.Asked, Answer: bad.Answer}
			for _, p := range []int64{1, g.G, x} {
				askCheck(t, g, p, bad, false, api.ErrForm)
				askExtract(t, g, p, bad, fine, 0, api.ErrForm)
				askExtract(t, g, p, fine, bad, 0, api.ErrForm)
				askExtract(t, g, p, bad, bad, 0, api.ErrForm)
			}
			askCheck(t, g, x, fine, false, api.ErrForm)
			askExtract(t, g, x, fine, fine, 0, api.ErrForm)
			for _, text := range texts() {
				askVerify(t, g, 1, text, bad, false, api.ErrForm)
				askVerify(t, g, x, text, fine, false, api.ErrForm)
			}
		}
	}
}

func TestW1Named(t *testing.T) {
	askSpeak(t, example, 2, 1, 1, api.Talk{First: 2, Asked: 1, Answer: 0}, api.OK)
	askSpeak(t, example, 2, 1, 2, api.Talk{First: 2, Asked: 2, Answer: 2}, api.OK)
	askSpeak(t, example, 2, 1, 0, api.Talk{First: 2, Asked: 0, Answer: 1}, api.OK)
	askSpeak(t, example, 0, 0, 0, api.Talk{First: 1}, api.OK)
	askSpeak(t, example, 3, 1, 1, api.Talk{}, api.ErrRange)
	askSpeak(t, example, 2, 3, 1, api.Talk{}, api.ErrRange)
	askSpeak(t, example, 2, 1, 3, api.Talk{}, api.ErrRange)
	askSpeak(t, example, -1, 1, 1, api.Talk{}, api.ErrRange)
	askSpeak(t, example, 2, -1, 1, api.Talk{}, api.ErrRange)
	askSpeak(t, example, 2, 1, -1, api.Talk{}, api.ErrRange)
	askCheck(t, example, 4, api.Talk{First: 2, Asked: 1, Answer: 0}, true, api.OK)
	askCheck(t, example, 4, api.Talk{First: 2, Asked: 1, Answer: 1}, false, api.OK)
	askCheck(t, example, 4, api.Talk{First: 2, Asked: 2, Answer: 0}, false, api.OK)
	askCheck(t, example, 4, api.Talk{First: 4, Asked: 1, Answer: 0}, false, api.OK)
	askCheck(t, example, 2, api.Talk{First: 2, Asked: 1, Answer: 0}, false, api.OK)
	askCheck(t, example, 3, api.Talk{First: 2, Asked: 1, Answer: 0}, false, api.ErrForm)
	askCheck(t, example, 4, api.Talk{First: 3, Asked: 1, Answer: 0}, false, api.ErrForm)
	askCheck(t, example, 4, api.Talk{First: 9, Asked: 1, Answer: 0}, false, api.ErrForm)
	askCheck(t, example, 4, api.Talk{First: 2, Asked: 1, Answer: 3}, false, api.ErrRange)
	askCheck(t, example, 4, api.Talk{First: 3, Asked: 4, Answer: 0}, false, api.ErrRange)
	askCheck(t, example, 3, api.Talk{First: 2, Asked: 1, Answer: -3}, false, api.ErrRange)
	// Only G counts, not H.
	askSpeak(t, api.Group{P: 7, Q: 3, G: 4, H: 2}, 2, 1, 1, api.Talk{First: 4, Asked: 1, Answer: 0}, api.OK)
	askCheck(t, api.Group{P: 7, Q: 3, G: 4, H: 2}, 2, api.Talk{First: 4, Asked: 1, Answer: 0}, true, api.OK)
}

func TestW1SpeakSmallGroups(t *testing.T) {
	for _, g := range groupsTo(13) {
		size := g.Q + 3
		for n := range size * size * size {
			secret, k, asked := n%size-1, n/size%size-1, n/size/size-1
			if !inRange(g, secret, k, asked) {
				askSpeak(t, g, secret, k, asked, api.Talk{}, api.ErrRange)
				continue
			}
			want := api.Talk{First: pow(g.G, k, g.P), Asked: asked, Answer: (k + asked*secret) % g.Q}
			askSpeak(t, g, secret, k, asked, want, api.OK)
			askCheck(t, g, pow(g.G, secret, g.P), want, true, api.OK)
		}
	}
}

// wantCheck answers what Check is to answer of what is known to be a group.
func wantCheck(g api.Group, public int64, x api.Talk) (bool, api.Errno) {
	switch {
	case !inRange(g, x.Asked, x.Answer):
		return false, api.ErrRange
	case !isMember(g, public) || !isMember(g, x.First):
		return false, api.ErrForm
	}
	return holds(g, public, x), api.OK
}

// talksOf answers all talks with numbers a little beyond what is in range.
func talksOf(g api.Group) []api.Talk {
	var list []api.Talk
	for first := int64(-1); first <= g.P+1; first++ {
		for asked := int64(-1); asked <= g.Q; asked++ {
			for answer := int64(-1); answer <= g.Q; answer++ {
				list = append(list, api.Talk{First: first, Asked: asked, Answer: answer})
			}
		}
	}
	return list
}

func TestW1CheckSmallGroups(t *testing.T) {
	for _, g := range groupsTo(11) {
		for public := int64(-1); public <= g.P+2; public++ {
			for _, x := range talksOf(g) {
				want, wrong := wantCheck(g, public, x)
				askCheck(t, g, public, x, want, wrong)
			}
		}
	}
}

func TestW1GreatGroups(t *testing.T) {
	draw := rand.New(rand.NewSource(22))
	for _, g := range greatGroups() {
		for _, secret := range []int64{0, 1, g.Q - 1, draw.Int63n(g.Q)} {
			for _, k := range []int64{0, g.Q - 1, draw.Int63n(g.Q)} {
				for _, asked := range []int64{0, g.Q - 1, draw.Int63n(g.Q)} {
					want := api.Talk{First: pow(g.G, k, g.P), Asked: asked, Answer: (k + asked*secret) % g.Q}
					public := pow(g.G, secret, g.P)
					askSpeak(t, g.Group, secret, k, asked, want, api.OK)
					askCheck(t, g.Group, public, want, true, api.OK)
					askCheck(t, g.Group, public*g.G%g.P, want, asked == 0, api.OK)
					want.Answer = (want.Answer + 1) % g.Q
					askCheck(t, g.Group, public, want, false, api.OK)
				}
			}
		}
	}
}

func TestW1GreatGroupsErrors(t *testing.T) {
	groups := greatGroups()
	for _, i := range []int{0, len(groups) / 2, len(groups) - 1} {
		g := groups[i]
		no := int64(2)
		for isMember(g.Group, no) {
			no++
		}
		for _, k := range append([]int64{g.Q, g.Q + 1, g.P, 2 * g.Q}, far...) {
			if !inRange(g.Group, k) {
				askAll(t, g.Group, k, no, api.ErrRange)
			}
		}
		for _, x := range []int64{no, 0, -1, g.P, g.P + 1, g.P + g.G, g.G - g.P, 1 - g.P, math.MaxInt64, math.MinInt64} {
			askForms(t, g.Group, x)
		}
	}
}

func TestW1FarNumbers(t *testing.T) {
	for _, x := range append([]int64{0, 3, 5, 6, 7, 8, 9, 11, -3, -5, -6}, far...) {
		askForms(t, example, x)
		for _, k := range append([]int64{3, 4, 5, 6, 7}, far...) {
			askAll(t, example, k, x, api.ErrRange)
		}
	}
}

// What is no group is told ahead of all else.
func TestW1NoGroup(t *testing.T) {
	for _, g := range noGroups {
		for _, k := range append([]int64{0, 1, 2, 3, 7}, far...) {
			askAll(t, g, k, 1, api.ErrArg)
			askAll(t, g, k, 3, api.ErrArg)
		}
	}
	for _, x := range far {
		for _, g := range []api.Group{{P: x, Q: 3, G: 2, H: 4}, {P: 7, Q: x, G: 2, H: 4}, {P: 7, Q: 3, G: x, H: 4}, {P: 7, Q: 3, G: 2, H: x}, {P: 9, Q: 6, G: 2, H: x}, {}} {
			for _, k := range []int64{-1, 0, 1, x} {
				askAll(t, g, k, 1, api.ErrRange)
				askAll(t, g, k, x, api.ErrRange)
			}
		}
	}
}

func TestW2Named(t *testing.T) {
	one, two := api.Talk{First: 2, Asked: 1, Answer: 0}, api.Talk{First: 2, Asked: 2, Answer: 2}
	askExtract(t, example, 4, one, two, 2, api.OK)
	askExtract(t, example, 4, two, one, 2, api.OK)
	askExtract(t, example, 4, api.Talk{First: 2, Asked: 0, Answer: 1}, two, 2, api.OK)
	askExtract(t, example, 1, api.Talk{First: 2, Asked: 0, Answer: 1}, api.Talk{First: 2, Asked: 1, Answer: 1}, 0, api.OK)
	// One Asked.
	askExtract(t, example, 4, one, one, 0, api.ErrArg)
	// Both are checked, but have not one First.
	askExtract(t, example, 4, one, api.Talk{First: 1, Asked: 2, Answer: 1}, 0, api.ErrArg)
	// One of them is not checked.
	askExtract(t, example, 4, one, api.Talk{First: 2, Asked: 2, Answer: 1}, 0, api.ErrArg)
	askExtract(t, example, 4, api.Talk{First: 2, Asked: 1, Answer: 1}, two, 0, api.ErrArg)
	askExtract(t, example, 2, one, two, 0, api.ErrArg)
	askExtract(t, example, 3, one, two, 0, api.ErrForm)
	askExtract(t, example, 4, api.Talk{First: 2, Asked: 1, Answer: 1}, api.Talk{First: 3, Asked: 1, Answer: 1}, 0, api.ErrForm)
	askExtract(t, example, 4, api.Talk{First: 3, Asked: 1, Answer: 1}, api.Talk{First: 2, Asked: 1, Answer: 3}, 0, api.ErrRange)
	askExtract(t, example, 4, api.Talk{First: 2, Asked: 4, Answer: 0}, two, 0, api.ErrRange)
	askFeign(t, example, 4, 1, 0, one, api.OK)
	askFeign(t, example, 4, 2, 2, two, api.OK)
	askFeign(t, example, 4, 0, 1, api.Talk{First: 2, Answer: 1}, api.OK)
	askFeign(t, example, 1, 0, 0, api.Talk{First: 1}, api.OK)
	askFeign(t, example, 3, 1, 0, api.Talk{}, api.ErrForm)
	askFeign(t, example, 3, 3, 0, api.Talk{}, api.ErrRange)
	askFeign(t, example, 3, 0, 3, api.Talk{}, api.ErrRange)
	askFeign(t, example, 3, 0, -1, api.Talk{}, api.ErrRange)
}

// wantExtract answers what Extract is to answer of what is known to be a group.
func wantExtract(g api.Group, public int64, x, y api.Talk) (int64, api.Errno) {
	isX, wrongX := wantCheck(g, public, x)
	isY, wrongY := wantCheck(g, public, y)
	switch {
	case wrongX == api.ErrRange || wrongY == api.ErrRange:
		return 0, api.ErrRange
	case wrongX != api.OK || wrongY != api.OK:
		return 0, api.ErrForm
	case !isX || !isY || x.First != y.First || x.Asked == y.Asked:
		return 0, api.ErrArg
	}
	return secretOf(g, public), api.OK
}

func TestW2ExtractSmallGroups(t *testing.T) {
	for _, g := range groupsTo(7) {
		all := talksOf(g)
		for public := int64(0); public <= g.P; public++ {
			for _, x := range all {
				for _, y := range all {
					// Of what is wrong with both, one in some is enough.
					if !inRange(g, x.Asked, x.Answer) && !inRange(g, y.Asked, y.Answer) && x.First != y.First {
						continue
					}
					want, wrong := wantExtract(g, public, x, y)
					askExtract(t, g, public, x, y, want, wrong)
				}
			}
		}
	}
}

func TestW2FeignSmallGroups(t *testing.T) {
	for _, g := range groupsTo(13) {
		for public := int64(-2); public <= g.P+3; public++ {
			for asked := int64(-2); asked <= g.Q+2; asked++ {
				for answer := int64(-2); answer <= g.Q+2; answer++ {
					switch {
					case !inRange(g, asked, answer):
						askFeign(t, g, public, asked, answer, api.Talk{}, api.ErrRange)
					case !isMember(g, public):
						askFeign(t, g, public, asked, answer, api.Talk{}, api.ErrForm)
					default:
						want := api.Talk{First: only(g, public, asked, answer), Asked: asked, Answer: answer}
						askFeign(t, g, public, asked, answer, want, api.OK)
						askCheck(t, g, public, want, true, api.OK)
					}
				}
			}
		}
	}
}

// Of each number that is asked, what is spoken by all k is what is feigned by all answers, each once: so a talk tells nothing of the secret.
func TestW2TellsNothing(t *testing.T) {
	for _, g := range groupsTo(23) {
		for n := range g.Q * g.Q {
			secret, asked := n%g.Q, n/g.Q
			counts := map[api.Talk]int{}
			for k := range g.Q {
				spoken, _ := talk.Speak(g, secret, k, asked)
				feigned, _ := talk.Feign(g, pow(g.G, secret, g.P), asked, k)
				counts[spoken]++
				counts[feigned]--
			}
			for x, count := range counts {
				if count != 0 {
					t.Errorf("%v, secret %d: %v is spoken %d times more than feigned", g, secret, x, count)
				}
			}
			if int64(len(counts)) != g.Q {
				t.Errorf("%v, secret %d, asked %d: %d talks", g, secret, asked, len(counts))
			}
		}
	}
}

func TestW2GreatGroups(t *testing.T) {
	draw := rand.New(rand.NewSource(23))
	for _, g := range greatGroups() {
		for range 10 {
			secret, k, asked, again := draw.Int63n(g.Q), draw.Int63n(g.Q), draw.Int63n(g.Q), draw.Int63n(g.Q)
			public := pow(g.G, secret, g.P)
			x := api.Talk{First: pow(g.G, k, g.P), Asked: asked, Answer: (k + asked*secret) % g.Q}
			y := api.Talk{First: x.First, Asked: again, Answer: (k + again*secret) % g.Q}
			askFeign(t, g.Group, public, asked, x.Answer, x, api.OK)
			if asked == again {
				askExtract(t, g.Group, public, x, y, 0, api.ErrArg)
				continue
			}
			askExtract(t, g.Group, public, x, y, secret, api.OK)
			askExtract(t, g.Group, public, y, x, secret, api.OK)
			y.Answer = (y.Answer + 1) % g.Q
			askExtract(t, g.Group, public, x, y, 0, api.ErrArg)
			// This one is checked, but has another First.
			y.First = y.First * g.G % g.P
			askCheck(t, g.Group, public, y, true, api.OK)
			askExtract(t, g.Group, public, x, y, 0, api.ErrArg)
		}
	}
}

func TestW3Named(t *testing.T) {
	// Of 2, 0, 0, 0, 4, 0, 0, 0 and the text the Sums are 1867, 53836 and 41295.
	askSign(t, example, 2, 1, nil, api.Talk{First: 2, Asked: 1, Answer: 0}, api.OK)
	askSign(t, example, 2, 1, []byte("abc"), api.Talk{First: 2, Asked: 1, Answer: 0}, api.OK)
	askSign(t, example, 2, 1, []byte("a"), api.Talk{First: 2, Asked: 0, Answer: 1}, api.OK)
	askVerify(t, example, 4, []byte("abc"), api.Talk{First: 2, Asked: 1, Answer: 0}, true, api.OK)
	askVerify(t, example, 4, []byte("a"), api.Talk{First: 2, Asked: 1, Answer: 0}, false, api.OK)
	askVerify(t, example, 4, []byte("a"), api.Talk{First: 2, Asked: 0, Answer: 1}, true, api.OK)
	askVerify(t, example, 4, []byte("a"), api.Talk{First: 2, Asked: 0, Answer: 0}, false, api.OK)
	askSign(t, wide, 123456, wide.Q-2, []byte{}, api.Talk{First: 589693, Asked: 29026, Answer: 200898}, api.OK)
	askSign(t, wide, 123456, wide.Q-2, []byte("abc"), api.Talk{First: 589693, Asked: 32678, Answer: 275150}, api.OK)
	askVerify(t, wide, 312238, []byte("abc"), api.Talk{First: 589693, Asked: 32678, Answer: 275150}, true, api.OK)
	askSign(t, example, 3, 1, nil, api.Talk{}, api.ErrRange)
	askSign(t, example, 2, -1, nil, api.Talk{}, api.ErrRange)
	askSign(t, example, 2, 1, make([]byte, api.MaxText-7), api.Talk{}, api.ErrLarge)
	askVerify(t, example, 3, nil, api.Talk{First: 2}, false, api.ErrForm)
	askVerify(t, example, 4, nil, api.Talk{First: 3}, false, api.ErrForm)
	askVerify(t, example, 4, nil, api.Talk{First: 2, Asked: 3}, false, api.ErrRange)
}

func TestW3SmallGroups(t *testing.T) {
	draw := rand.New(rand.NewSource(24))
	for _, g := range groupsTo(13) {
		for n := range g.Q * g.Q {
			secret, k := n%g.Q, n/g.Q
			text := make([]byte, draw.Intn(12))
			draw.Read(text)
			first, public := pow(g.G, k, g.P), pow(g.G, secret, g.P)
			asked := asks(g, first, public, text)
			askSign(t, g, secret, k, text, api.Talk{First: first, Asked: asked, Answer: (k + asked*secret) % g.Q}, api.OK)
		}
	}
}

// Of each text and all talks just those hold that are checked, and that the text asks.
func TestW3VerifySmallGroups(t *testing.T) {
	for _, g := range groupsTo(11) {
		for _, text := range []string{"", "\x00", "text"} {
			for public := int64(-1); public <= g.P+2; public++ {
				for _, x := range talksOf(g) {
					want, wrong := wantCheck(g, public, x)
					want = want && x.Asked == asks(g, x.First, public, []byte(text))
					askVerify(t, g, public, []byte(text), x, want, wrong)
				}
			}
		}
	}
}

func TestW3GreatGroups(t *testing.T) {
	draw := rand.New(rand.NewSource(25))
	for _, g := range greatGroups() {
		for range 10 {
			secret, k := draw.Int63n(g.Q), draw.Int63n(g.Q)
			text := make([]byte, draw.Intn(40))
			draw.Read(text)
			first, public := pow(g.G, k, g.P), pow(g.G, secret, g.P)
			asked := asks(g.Group, first, public, text)
			x := api.Talk{First: first, Asked: asked, Answer: (k + asked*secret) % g.Q}
			askSign(t, g.Group, secret, k, text, x, api.OK)
			askVerify(t, g.Group, public, text, x, true, api.OK)
			other := append([]byte{1}, text...)
			askVerify(t, g.Group, public, other, x, asks(g.Group, first, public, other) == asked, api.OK)
			// What is asked is right, but it is not checked.
			x.Answer = (x.Answer + 1) % g.Q
			askVerify(t, g.Group, public, text, x, false, api.OK)
			// It is checked, but the text asks another number.
			x.Asked = (asked + 1) % g.Q
			x.Answer = (k + x.Asked*secret) % g.Q
			askVerify(t, g.Group, public, text, x, false, api.OK)
		}
	}
}

func TestW3Lengths(t *testing.T) {
	g := wide
	first, public := pow(g.G, 3, g.P), pow(g.G, 4, g.P)
	for _, n := range []int{0, 1, 247, 248, 249, 255, 256, api.MaxText - 9, api.MaxText - 8} {
		text := bytes.Repeat([]byte{7}, n)
		asked := asks(g, first, public, text)
		x := api.Talk{First: first, Asked: asked, Answer: (3 + asked*4) % g.Q}
		askSign(t, g, 4, 3, text, x, api.OK)
		askVerify(t, g, public, text, x, true, api.OK)
	}
	for _, n := range []int{api.MaxText - 7, api.MaxText - 1, api.MaxText, api.MaxText + 1, 1 << 20} {
		text := make([]byte, n)
		askSign(t, g, 4, 3, text, api.Talk{}, api.ErrLarge)
		// A text that is too long is told, checked or not.
		askVerify(t, g, public, text, api.Talk{First: first, Answer: 3}, false, api.ErrLarge)
		askVerify(t, g, public, text, api.Talk{First: first, Answer: 4}, false, api.ErrLarge)
	}
}

// What lies behind a text's length is neither read nor written, and the text is not changed.
func TestW3TextIsNotChanged(t *testing.T) {
	whole := []byte("a text and more")
	kept := bytes.Clone(whole)
	x, _ := talk.Sign(example, 2, 1, whole[:6])
	askSign(t, example, 2, 1, []byte("a text"), x, api.OK)
	askVerify(t, example, 4, whole[:6], x, true, api.OK)
	if !bytes.Equal(whole, kept) {
		t.Errorf("%q was changed to %q", kept, whole)
	}
}
