package pratt_test

import (
	"math"
	"math/rand"
	"reflect"
	"slices"
	"testing"

	"lockwright/api"
	"lockwright/pratt"
)

const (
	mod   = int64(api.MaxMod)
	lines = api.MaxLines
	// lastPrime is the greatest prime up to MaxMod, nextPrime the least above it.
	lastPrime = int64(1048573)
	nextPrime = int64(1048583)
)

// proofOf7 is the document's example.
func proofOf7() []api.Line {
	return []api.Line{{N: 2}, {N: 3, G: 2, From: []int{0}}, {N: 7, G: 3, From: []int{0, 1}}}
}

// pow answers what a^k leaves, divided by n; a is from 0 on.
func pow(a, k, n int64) int64 {
	square, product := a%n, 1%n
	for ; k > 0; k /= 2 {
		if k%2 == 1 {
			product = product * square % n
		}
		square = square * square % n
	}
	return product
}

// isPrime tries every divisor up to the root.
func isPrime(n int64) bool {
	for d := int64(2); d*d <= n; d++ {
		if n%d == 0 {
			return false
		}
	}
	return n > 1
}

// primesOf answers the primes that divide n, rising.
func primesOf(n int64) []int64 {
	var list []int64
	for d := int64(2); n > 1; d++ {
		if d*d > n {
			d = n
		}
		if n%d != 0 {
			continue
		}
		list = append(list, d)
		for n%d == 0 {
			n /= d
		}
	}
	return list
}

// wantHolds asks of a line all that G1 says, in the words of G1, whatever the other lines are.
func wantHolds(l []api.Line, i int) bool {
	line := l[i]
	if line.N == 2 {
		return true
	}
	if line.N < 3 || line.N > mod || line.G < 1 || line.G > line.N-1 || pow(line.G, line.N-1, line.N) != 1 {
		return false
	}
	rest := line.N - 1
	for _, at := range line.From {
		if at < 0 || at >= i || l[at].N == 0 || (line.N-1)%l[at].N != 0 {
			return false
		}
		q := l[at].N
		// Such a line does not hold itself, and it can be divided out for ever.
		if q < 2 {
			return false
		}
		for rest%q == 0 {
			rest /= q
		}
		if pow(line.G, (line.N-1)/q, line.N) == 1 {
			return false
		}
	}
	return rest == 1
}

func wantCheck(l []api.Line) bool {
	for i := range l {
		if !wantHolds(l, i) {
			return false
		}
	}
	return true
}

// wantProof puts the proof of some primes together as G2 says it, by trying every number; it asks for no limit.
func wantProof(all ...int64) []api.Line {
	needed := slices.Clone(all)
	for i := 0; i < len(needed); i++ {
		for _, q := range primesOf(needed[i] - 1) {
			if !slices.Contains(needed, q) {
				needed = append(needed, q)
			}
		}
	}
	slices.Sort(needed)
	var l []api.Line
	for _, p := range needed {
		line := api.Line{N: p}
		if p > 2 {
			line.From = placesOf(primesOf(p-1), l)
			line.G = wantRoot(p)
		}
		l = append(l, line)
	}
	return l
}

// placesOf answers where the lines of the primes are.
func placesOf(list []int64, l []api.Line) []int {
	var at []int
	for _, q := range list {
		at = append(at, slices.IndexFunc(l, func(line api.Line) bool { return line.N == q }))
	}
	return at
}

// wantRoot answers the least number whose powers leave 1 by the prime p at p - 1 for the first time.
func wantRoot(p int64) int64 {
	list := primesOf(p - 1)
	for g := int64(1); ; g++ {
		if !slices.ContainsFunc(list, func(q int64) bool { return pow(g, (p-1)/q, p) == 1 }) {
			return g
		}
	}
}

func clone(l []api.Line) []api.Line {
	c := slices.Clone(l)
	for i := range c {
		c[i].From = slices.Clone(c[i].From)
	}
	return c
}

func same(a, b []api.Line) bool {
	return slices.EqualFunc(a, b, func(x, y api.Line) bool {
		return x.N == y.N && x.G == y.G && slices.Equal(x.From, y.From)
	})
}

func checkProof(t *testing.T, l []api.Line, want bool, wrong api.Errno) {
	t.Helper()
	before := clone(l)
	if is, e := pratt.Check(l); is != want || e != wrong {
		t.Errorf("Check(%v) = %v, %d; want %v, %d", l, is, e, want, wrong)
	}
	if !reflect.DeepEqual(l, before) {
		t.Errorf("Check has made %v of %v", l, before)
	}
}

func checkMade(t *testing.T, n int64, want []api.Line, wrong api.Errno) {
	t.Helper()
	l, e := pratt.Make(n)
	if e != wrong || !same(l, want) {
		t.Errorf("Make(%d) = %v, %d; want %v, %d", n, l, e, want, wrong)
	}
}

func TestG1Named(t *testing.T) {
	far := []int{-1, 5, math.MaxInt, math.MinInt}
	for _, c := range []struct {
		l    []api.Line
		want bool
	}{
		{nil, true},
		{[]api.Line{}, true},
		{[]api.Line{{N: 2}}, true},
		{[]api.Line{{N: 2, G: -3, From: far}}, true},
		{[]api.Line{{N: 2}, {N: 2}}, true},
		{[]api.Line{{}}, false},
		{[]api.Line{{N: 1}}, false},
		{[]api.Line{{N: 1, G: 1, From: []int{}}}, false},
		{[]api.Line{{N: -2}}, false},
		{[]api.Line{{N: 3, G: 2}}, false},
		{[]api.Line{{N: 3, G: 2, From: []int{0}}}, false},
		{[]api.Line{{N: 3, G: 2, From: []int{1}}, {N: 2}}, false},
		{[]api.Line{{N: 2}, {N: 3, G: 2, From: []int{0}}}, true},
		{[]api.Line{{N: 2}, {N: 3, G: 1, From: []int{0}}}, false},
		{[]api.Line{{N: 2}, {N: 3, G: 2}}, false},
		{[]api.Line{{N: 2}, {N: 5, G: 2, From: []int{0}}}, true},
		{[]api.Line{{N: 2}, {N: 5, G: 3, From: []int{0}}}, true},
		{[]api.Line{{N: 2}, {N: 5, G: 4, From: []int{0}}}, false},
		{[]api.Line{{N: 2}, {N: 9, G: 2, From: []int{0}}}, false},
		{[]api.Line{{N: 2}, {N: 65537, G: 3, From: []int{0}}}, true},
		{[]api.Line{{N: 2}, {N: 65537, G: 2, From: []int{0}}}, false},
		{proofOf7(), true},
	} {
		checkProof(t, c.l, c.want, api.OK)
	}
}

// Of the last line of a proof each part is turned; what is still a proof then is told by the words of G1 alone.
func TestG1SmallNumbers(t *testing.T) {
	ahead := []api.Line{{N: 2}, {N: 3, G: 2, From: []int{0}}, {N: 5, G: 2, From: []int{0}}, {N: 7, G: 3, From: []int{0, 1}}}
	for n := int64(-3); n <= 80; n++ {
		some := false
		for g := int64(-2); g <= n+2; g++ {
			for set := range 1 << len(ahead) {
				var from []int
				for at := range ahead {
					if set>>at&1 == 1 {
						from = append(from, at)
					}
				}
				l := append(clone(ahead), api.Line{N: n, G: g, From: from})
				want := wantCheck(l)
				some = some || want
				checkProof(t, l, want, api.OK)
			}
		}
		// What a proof speaks of is a prime; and each prime has one, if its lines are there.
		provable := n == 2 || isPrime(n) && len(primesOf(n-1)) > 0 && slices.Max(primesOf(n-1)) <= 7
		if some != provable {
			t.Errorf("some proof of %d holds: %v; want %v", n, some, provable)
		}
	}
}

func TestG1From(t *testing.T) {
	last := func(from ...int) []api.Line {
		return []api.Line{{N: 2}, {N: 3, G: 2, From: []int{0}}, {N: 5, G: 2, From: []int{0}}, {N: 31, G: 3, From: from}, {N: 2}}
	}
	checkProof(t, last(0, 1, 2), true, api.OK)
	checkProof(t, last(2, 0, 1), true, api.OK)
	checkProof(t, last(2, 0, 1, 0, 2, 2), true, api.OK)
	for _, from := range [][]int{nil, {0}, {1, 2}, {0, 2}, {0, 1}, {2, 2, 2}} {
		checkProof(t, last(from...), false, api.OK)
	}
	for _, at := range []int{3, 4, 5, 64, -1, -2, 1 << 32, -1 << 32, math.MaxInt, math.MinInt} {
		checkProof(t, last(0, 1, 2, at), false, api.OK)
		checkProof(t, last(at, 0, 1, 2), false, api.OK)
		checkProof(t, last(0, at, 2), false, api.OK)
	}
	checkProof(t, last(slices.Repeat([]int{1, 0, 2}, 30000)...), true, api.OK)
}

// A line that is named has to divide, even where the others are enough; one that is not named may be there.
func TestG1FromThatDoesNotDivide(t *testing.T) {
	l := append(proofOf7(), api.Line{N: 13, G: 2, From: []int{0, 1}})
	checkProof(t, l, true, api.OK)
	l[3].From = []int{0, 1, 2}
	checkProof(t, l, false, api.OK)
	l[3].From = []int{2, 0, 1}
	checkProof(t, l, false, api.OK)
}

// A G may leave 1 at N - 1 and too early as well: each Q of From is asked.
func TestG1TooEarly(t *testing.T) {
	for g := int64(1); g < 31; g++ {
		order, x := 1, g
		for ; x != 1; order++ {
			x = x * g % 31
		}
		l := []api.Line{{N: 2}, {N: 3, G: 2, From: []int{0}}, {N: 5, G: 2, From: []int{0}}, {N: 31, G: g, From: []int{0, 1, 2}}}
		checkProof(t, l, order == 30, api.OK)
		// A G that leaves 1 by N just as one in range does is out of range all the same.
		l[3].G = g + 31
		checkProof(t, l, false, api.OK)
		l[3].G = g - 31
		checkProof(t, l, false, api.OK)
	}
}

// Of numbers that are no primes no line holds, though all that it needs is there, and though many G leave 1.
func TestG1Seeming(t *testing.T) {
	for _, n := range []int64{4, 9, 15, 25, 341, 561, 1105, 1729, 2047, 8911, 825265, 1024651, 1033669, mod - 1, mod} {
		l := wantProof(primesOf(n - 1)...)
		checkProof(t, l, true, api.OK)
		from := placesOf(primesOf(n-1), l)
		for g := int64(1); g < n && g < 3000; g++ {
			checkProof(t, append(clone(l), api.Line{N: n, G: g, From: from}), false, api.OK)
		}
	}
}

func TestG1Edges(t *testing.T) {
	l := wantProof(lastPrime)
	last := len(l) - 1
	checkProof(t, l, true, api.OK)
	for _, g := range []int64{0, -1, 1, lastPrime - 1, lastPrime, lastPrime + l[last].G, -l[last].G, 1<<32 + 2, math.MaxInt64, math.MinInt64} {
		wrong := clone(l)
		wrong[last].G = g
		checkProof(t, wrong, false, api.OK)
	}
	for _, n := range []int64{0, 1, -1, -3, -7, -lastPrime, mod - 1, mod, mod + 1, 1<<32 + 3, 1<<32 + 1, math.MaxInt64, math.MinInt64, math.MinInt64 + 1} {
		wrong := clone(l)
		wrong[last].N = n
		checkProof(t, wrong, false, api.OK)
		wrong[last].From = nil
		checkProof(t, wrong, false, api.OK)
	}
}

// By its words alone this would be a proof; only the limit speaks against it.
func TestG1BeyondMaxMod(t *testing.T) {
	l := wantProof(nextPrime)
	checkProof(t, l[:len(l)-1], true, api.OK)
	checkProof(t, l, false, api.OK)
}

// A line that does not hold spoils the proof at each place, named or not, also where it can't be divided by.
func TestG1WrongLines(t *testing.T) {
	for _, wrong := range []api.Line{{}, {N: 1}, {N: 1, G: 1, From: []int{0}}, {N: -1}, {N: -2, G: 1}, {N: 4, G: 3, From: []int{0}}, {N: 6, G: 5, From: []int{0}}, {N: math.MinInt64}, {N: math.MaxInt64, G: 2, From: []int{0}}} {
		for at := range 4 {
			for _, name := range []bool{false, true} {
				l := slices.Insert(proofOf7(), at, wrong)
				for i := range l {
					for k, from := range l[i].From {
						if from >= at && i != at {
							l[i].From[k]++
						}
					}
					if name && i > at {
						l[i].From = append(l[i].From, at)
					}
				}
				checkProof(t, l, false, api.OK)
			}
		}
	}
	checkProof(t, []api.Line{{N: 1}, {N: 3, G: 2, From: []int{0}}}, false, api.OK)
	checkProof(t, []api.Line{{N: 0}, {N: 3, G: 2, From: []int{0}}}, false, api.OK)
	checkProof(t, []api.Line{{N: -1}, {N: 3, G: 2, From: []int{0}}}, false, api.OK)
	checkProof(t, []api.Line{{N: 4}, {N: 5, G: 2, From: []int{0}}}, false, api.OK)
}

func TestG1TooLarge(t *testing.T) {
	twos := slices.Repeat([]api.Line{{N: 2}}, 3*lines)
	checkProof(t, twos[:lines-1], true, api.OK)
	checkProof(t, twos[:lines], true, api.OK)
	checkProof(t, twos[:lines+1], false, api.ErrLarge)
	checkProof(t, twos, false, api.ErrLarge)
	full := append(slices.Repeat([]api.Line{{N: 2}}, lines-1), api.Line{N: 3, G: 2, From: []int{lines - 2}})
	checkProof(t, full, true, api.OK)
	full[lines-1].From[0] = lines - 1
	checkProof(t, full, false, api.OK)
	checkProof(t, make([]api.Line, lines), false, api.OK)
	checkProof(t, make([]api.Line, lines+1), false, api.ErrLarge)
}

// What lies behind the lengths neither helps nor harms.
func TestG1BehindTheLength(t *testing.T) {
	l := append(proofOf7(), api.Line{N: 9, G: 2, From: []int{0}})
	checkProof(t, l[:3], true, api.OK)
	l = proofOf7()
	l[2].From = []int{0, 1, 99}[:2]
	checkProof(t, l, true, api.OK)
	l[2].From = []int{0, 1}[:1]
	checkProof(t, l, false, api.OK)
}

func TestG1Drawn(t *testing.T) {
	draw := rand.New(rand.NewSource(7))
	held := 0
	for range 20000 {
		p := draw.Int63n(3000) + 2
		for !isPrime(p) {
			p++
		}
		l := wantProof(p)
		for range draw.Intn(3) {
			spoil(draw, l)
		}
		want := wantCheck(l)
		if want {
			held++
		}
		checkProof(t, l, want, api.OK)
	}
	if held < 2000 || held > 18000 {
		t.Errorf("%d of the drawn lists are proofs: too few of one kind", held)
	}
}

// spoil turns one part of one line.
func spoil(draw *rand.Rand, l []api.Line) {
	line := &l[draw.Intn(len(l))]
	switch draw.Intn(4) {
	case 0:
		line.N += draw.Int63n(5) - 2
	case 1:
		line.G = draw.Int63n(max(line.N, 0)+2) - 1
	case 2:
		line.From = append(line.From, draw.Intn(len(l)+2)-1)
	case 3:
		if len(line.From) > 0 {
			line.From = slices.Delete(line.From, 0, 1)
		}
	}
}

func TestG2Named(t *testing.T) {
	checkMade(t, 2, []api.Line{{N: 2}}, api.OK)
	checkMade(t, 3, []api.Line{{N: 2}, {N: 3, G: 2, From: []int{0}}}, api.OK)
	checkMade(t, 5, []api.Line{{N: 2}, {N: 5, G: 2, From: []int{0}}}, api.OK)
	checkMade(t, 7, proofOf7(), api.OK)
	checkMade(t, 23, []api.Line{{N: 2}, {N: 5, G: 2, From: []int{0}}, {N: 11, G: 2, From: []int{0, 1}}, {N: 23, G: 5, From: []int{0, 2}}}, api.OK)
	checkMade(t, 31, []api.Line{{N: 2}, {N: 3, G: 2, From: []int{0}}, {N: 5, G: 2, From: []int{0}}, {N: 31, G: 3, From: []int{0, 1, 2}}}, api.OK)
	checkMade(t, 65537, []api.Line{{N: 2}, {N: 65537, G: 3, From: []int{0}}}, api.OK)
	checkMade(t, 41, []api.Line{{N: 2}, {N: 5, G: 2, From: []int{0}}, {N: 41, G: 6, From: []int{0, 1}}}, api.OK)
}

// The least G is found by going through its powers one by one.
func TestG2LeastCountedOut(t *testing.T) {
	for p := int64(3); p < 1500; p++ {
		if !isPrime(p) {
			continue
		}
		want := int64(0)
		for g := int64(1); want == 0; g++ {
			order, x := int64(1), g
			for ; x != 1; order++ {
				x = x * g % p
			}
			if order == p-1 {
				want = g
			}
		}
		l, e := pratt.Make(p)
		if e != api.OK || len(l) == 0 || l[len(l)-1].N != p || l[len(l)-1].G != want {
			t.Errorf("Make(%d) = %v, %d; want G %d at its end", p, l, e, want)
		}
	}
}

func TestG2AllNumbers(t *testing.T) {
	for n := int64(1); n <= mod && !t.Failed(); n++ {
		checkNumber(t, n)
	}
}

func checkNumber(t *testing.T, n int64) {
	t.Helper()
	if !isPrime(n) {
		checkMade(t, n, nil, api.ErrNone)
		return
	}
	l := wantProof(n)
	checkMade(t, n, l, api.OK)
	checkProof(t, l, true, api.OK)
}

// Each of these has 2 as a square and most small numbers as powers of some kind: the least G is far up.
func TestG2GreatLeast(t *testing.T) {
	for _, c := range []struct{ p, g int64 }{{191, 19}, {409, 21}, {2161, 23}, {5881, 31}, {36721, 37}, {55441, 38}, {71761, 44}, {110881, 69}, {760321, 73}} {
		l, e := pratt.Make(c.p)
		if e != api.OK || len(l) == 0 || l[len(l)-1].G != c.g {
			t.Errorf("Make(%d) = %v, %d; want G %d at its end", c.p, l, e, c.g)
		}
	}
}

func TestG2OfTwo(t *testing.T) {
	for _, p := range []int64{2, 3, 7, 257, lastPrime} {
		l, e := pratt.Make(p)
		if e != api.OK || len(l) == 0 || l[0].N != 2 || l[0].G != 0 || len(l[0].From) != 0 {
			t.Errorf("Make(%d) = %v, %d; want 2 in front, its G 0, its From empty", p, l, e)
		}
	}
}

func TestG2TooFar(t *testing.T) {
	for _, n := range []int64{0, -1, -2, -3, -7, -lastPrime, -mod, mod + 1, mod + 7, nextPrime, 1<<31 - 1, 1<<32 + 7, math.MaxInt64, math.MinInt64, math.MinInt64 + 1} {
		checkMade(t, n, nil, api.ErrRange)
	}
}

func TestG2NoPrime(t *testing.T) {
	for _, n := range []int64{1, 4, 6, 8, 9, 15, 341, 561, 1105, 2047, 1021 * 1021, 1019 * 1021, mod - 1, mod} {
		checkMade(t, n, nil, api.ErrNone)
	}
}

// No list of an answer lies in another one's memory, and none is kept for a later answer.
func TestG2NewMemory(t *testing.T) {
	for _, p := range []int64{2, 7, 31, 211, 2311, 30011, lastPrime} {
		want := wantProof(p)
		l, _ := pratt.Make(p)
		other, _ := pratt.Make(p)
		for i := range l {
			for k := range l[i].From {
				l[i].From[k] = -1
			}
			_ = append(l[i].From, -2, -2, -2)
			for k := i + 1; k < len(l); k++ {
				if !slices.Equal(l[k].From, want[k].From) {
					t.Errorf("Make(%d): line %d shares its From with line %d", p, k, i)
				}
			}
		}
		if !same(other, want) {
			t.Errorf("Make(%d) answered what shares memory: %v", p, other)
		}
		checkMade(t, p, want, api.OK)
	}
}

func TestG2AgainAndAgain(t *testing.T) {
	for _, p := range []int64{2, 7, 2311, 30011, 510529, lastPrime} {
		want := wantProof(p)
		for range 200 {
			checkMade(t, p, want, api.OK)
		}
	}
}
