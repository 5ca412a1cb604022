package log_test

import (
	"math"
	"math/rand"
	"slices"
	"testing"

	"lockwright/api"
	"lockwright/log"
)

const (
	most = int64(api.MaxNum)
	mod  = int64(api.MaxMod)
	// lastPrime is the greatest prime up to MaxMod, nextPrime the least above it.
	lastPrime = int64(1048573)
	nextPrime = int64(1048583)
)

// farNumbers: what Log takes neither as g nor as a, just beyond the limits and as far out as can be.
var farNumbers = []int64{most + 1, -most - 1, 1<<32 + 1, -1<<32 + 1, math.MaxInt64, math.MinInt64, math.MinInt64 + 1}

// farModuli: what no call takes as p.
var farModuli = []int64{0, -1, -2, -3, -7, -lastPrime, -mod, mod + 1, mod + 2, nextPrime, most - 1, most, 1<<32 + 7, 1<<32 + 15, math.MaxInt64, math.MinInt64, math.MinInt64 + 1}

// noPrimes: what is in range, and no prime.
var noPrimes = []int64{1, 4, 6, 8, 9, 15, 25, 341, 561, 1105, 2047, 1021 * 1021, 1019 * 1021, mod - 1, mod}

// edges: what Log takes as g and as a, at the limits and around 0.
var edges = []int64{-most, -most + 1, -mod - 1, -mod, -2, -1, 0, 1, 2, 3, mod - 1, mod, mod + 1, most - 1, most}

// left answers what is left of n, divided by m, from 0 on.
func left(n, m int64) int64 { return (n%m + m) % m }

// pow answers what a^k leaves, divided by n.
func pow(a, k, n int64) int64 {
	square, product := left(a, n), 1%n
	for ; k > 0; k /= 2 {
		if k%2 == 1 {
			product = product * square % n
		}
		square = square * square % n
	}
	return product
}

// leastDivisors has for each number up to MaxMod the least prime that divides it.
func leastDivisors() []int64 {
	least := make([]int64, mod+1)
	for p := int64(2); p <= mod; p++ {
		if least[p] != 0 {
			continue
		}
		for n := p; n <= mod; n += p {
			if least[n] == 0 {
				least[n] = p
			}
		}
	}
	return least
}

// allPrimes answers the primes from 2 up to below, rising.
func allPrimes(below int64) []int64 {
	var list []int64
	for n, d := range leastDivisors() {
		if n > 1 && int64(n) < below && d == int64(n) {
			list = append(list, d)
		}
	}
	return list
}

// logs goes through the powers of g one by one, and has for each number below p the least k; -1, where there is none.
func logs(g, p int64) []int64 {
	list := slices.Repeat([]int64{-1}, int(p))
	x := 1 % p
	// Behind p powers one has come twice, and from there on nothing new comes.
	for k := range p + 1 {
		if list[x] < 0 {
			list[x] = k
		}
		x = left(x*left(g, p), p)
	}
	return list
}

// countedOrder multiplies g by itself until it is what 1 leaves; p does not divide g.
func countedOrder(g, p int64) int64 {
	k := int64(1)
	for x := g % p; x != 1%p; k++ {
		x = x * g % p
	}
	return k
}

// wantBase tries the numbers from 1 on; each prime of p - 1 is asked whether it can be taken out of the exponent.
func wantBase(p int64, least []int64) int64 {
	early := func(g int64) bool {
		for rest := p - 1; rest > 1; rest /= least[rest] {
			if pow(g, (p-1)/least[rest], p) == 1 {
				return true
			}
		}
		return false
	}
	g := int64(1)
	for early(g) {
		g++
	}
	return g
}

func checkBase(t *testing.T, p, want int64, wrong api.Errno) {
	t.Helper()
	if g, e := log.Base(p); g != want || e != wrong {
		t.Errorf("Base(%d) = %d, %d; want %d, %d", p, g, e, want, wrong)
	}
}

func checkLog(t *testing.T, g, a, p, want int64, wrong api.Errno) {
	t.Helper()
	if k, e := log.Log(g, a, p); k != want || e != wrong {
		t.Errorf("Log(%d, %d, %d) = %d, %d; want %d, %d", g, a, p, k, e, want, wrong)
	}
}

// checkCounted holds Log against the counted logs of g by p.
func checkCounted(t *testing.T, g, a, p int64, list []int64) {
	t.Helper()
	if k := list[left(a, p)]; k >= 0 {
		checkLog(t, g, a, p, k, api.OK)
	} else {
		checkLog(t, g, a, p, 0, api.ErrNone)
	}
}

func TestH1Named(t *testing.T) {
	// Of 760321 all numbers below 73 come round too early; no prime up to MaxMod has a greater Base.
	for _, c := range [][2]int64{{2, 1}, {3, 2}, {5, 2}, {7, 3}, {11, 2}, {23, 5}, {41, 6}, {71, 7}, {191, 19}, {409, 21}, {65537, 3}, {110881, 69}, {760321, 73}, {786433, 10}, {lastPrime, 2}} {
		checkBase(t, c[0], c[1], api.OK)
	}
}

// The powers are gone through one by one, so that nothing but multiplying is trusted.
func TestH1CountedOut(t *testing.T) {
	for _, p := range allPrimes(2500) {
		want := int64(1)
		for countedOrder(want, p) != p-1 {
			want++
		}
		checkBase(t, p, want, api.OK)
	}
}

// Every number up to MaxMod is asked: a prime has its Base, any other one is told as ErrArg.
func TestH1AllNumbers(t *testing.T) {
	least := leastDivisors()
	for p := int64(1); p <= mod && !t.Failed(); p++ {
		if p > 1 && least[p] == p {
			checkBase(t, p, wantBase(p, least), api.OK)
		} else {
			checkBase(t, p, 0, api.ErrArg)
		}
	}
}

func TestH1BaseTooFar(t *testing.T) {
	for _, p := range farModuli {
		checkBase(t, p, 0, api.ErrRange)
	}
}

// ErrRange is named ahead of ErrArg; and it is told, too, where there is no such power, or where all is 0.
func TestH1LogTooFar(t *testing.T) {
	for _, far := range farNumbers {
		for _, near := range edges {
			for _, p := range slices.Concat([]int64{2, 3, 7, lastPrime}, noPrimes, farModuli) {
				checkLog(t, far, near, p, 0, api.ErrRange)
				checkLog(t, near, far, p, 0, api.ErrRange)
				checkLog(t, far, far, p, 0, api.ErrRange)
			}
		}
	}
	for _, p := range farModuli {
		for _, g := range edges {
			for _, a := range edges {
				checkLog(t, g, a, p, 0, api.ErrRange)
			}
		}
	}
}

// ErrArg is told also where a power is what is asked for, or none is.
func TestH1LogNoPrime(t *testing.T) {
	for _, p := range noPrimes {
		for _, g := range edges {
			for _, a := range edges {
				checkLog(t, g, a, p, 0, api.ErrArg)
			}
		}
	}
	least := leastDivisors()
	for p := int64(1); p <= mod && !t.Failed(); p++ {
		if p == 1 || least[p] != p {
			checkLog(t, 2, 4, p, 0, api.ErrArg)
		}
	}
}

func TestH2Named(t *testing.T) {
	for _, c := range []struct{ g, a, p, k int64 }{
		{3, 6, 7, 3},
		{3, 1, 7, 0}, // not 6
		{3, 5, 7, 5},
		{10, -1, 7, 3},
		{-4, 13, 7, 3},
		{2, 4, 7, 2},
		{1, 1, 7, 0},
		{6, 1, 7, 0},
		{6, 6, 7, 1},
		{0, 0, 7, 1},
		{0, 1, 7, 0},
		{-7, 14, 7, 1},
		{14, -6, 7, 0},
		{1, 1, 2, 0},
		{0, 1, 2, 0},
		{0, 0, 2, 1},
		{-most, most, 2, 1},
		{2, 2, 3, 1},
		{2, 1, 3, 0},
	} {
		checkLog(t, c.g, c.a, c.p, c.k, api.OK)
	}
	for _, c := range [][3]int64{{2, 3, 7}, {1, 2, 7}, {1, 0, 7}, {3, 0, 7}, {3, 7, 7}, {0, 2, 7}, {0, -1, 7}, {7, 5, 7}, {1, 0, 2}, {1, most, 2}, {1, 2, 3}, {0, 2, 3}, {2, 0, 3}} {
		checkLog(t, c[0], c[1], c[2], 0, api.ErrNone)
	}
}

func TestH2SmallPrimes(t *testing.T) {
	for _, p := range allPrimes(150) {
		for g := -p; g <= p+1; g++ {
			list := logs(g, p)
			for a := -p - 1; a <= 2*p; a++ {
				checkCounted(t, g, a, p, list)
			}
		}
	}
}

// Of each number that p - 1 can be divided by, a g that comes round behind so many steps: so powers come round within the small steps, at their end, and behind them.
func TestH2EveryOrder(t *testing.T) {
	draw := rand.New(rand.NewSource(8))
	least := leastDivisors()
	for _, p := range []int64{257, 2311, 55441, 65537, 110881, 786433, lastPrime} {
		base := wantBase(p, least)
		for d := int64(1); d < p; d++ {
			if (p-1)%d != 0 {
				continue
			}
			g := pow(base, (p-1)/d, p)
			list := logs(g, p)
			for range 20 {
				checkCounted(t, g, draw.Int63n(p), p, list)
				checkCounted(t, g-p, pow(g, draw.Int63n(d), p)+p, p, list)
			}
			for _, k := range []int64{0, 1, d / 2, d - 1, d, d + 1} {
				checkLog(t, g, pow(g, k, p), p, k%d, api.OK)
			}
		}
	}
}

// By each of these every exponent is asked: the edges of each great step are among them.
func TestH2WholePrimes(t *testing.T) {
	for _, p := range []int64{1009, 4093, 4099, 16381, 16411} {
		for _, g := range []int64{2, 3, 5, p - 1} {
			list := logs(g, p)
			for a := int64(0); a < p && !t.Failed(); a++ {
				checkCounted(t, g, a, p, list)
			}
		}
	}
}

// By primes just below and just above each square the greatest exponents are asked: there the great steps are only just enough.
func TestH2AboutSquares(t *testing.T) {
	least := leastDivisors()
	list := allPrimes(mod + 1)
	for r := int64(2); r <= 1024; r++ {
		at, _ := slices.BinarySearch(list, r*r)
		for _, p := range list[at-1 : min(at+1, len(list))] {
			g := wantBase(p, least)
			for k := p - 2; k >= 0 && k >= p-4; k-- {
				checkLog(t, g, pow(g, k, p), p, k, api.OK)
			}
			checkLog(t, g, 0, p, 0, api.ErrNone)
		}
	}
}

// By every prime, each power of its Base below p - 1 has its own exponent as the least; and of a square nothing but squares are powers.
func TestH2AllPrimes(t *testing.T) {
	draw := rand.New(rand.NewSource(9))
	least := leastDivisors()
	for _, p := range allPrimes(mod + 1) {
		g := wantBase(p, least)
		k := draw.Int63n(p - 1)
		checkLog(t, g, pow(g, k, p), p, k, api.OK)
		checkLog(t, -p, -p, p, 1, api.OK)
		checkLog(t, p, 1-p, p, 0, api.OK)
		if p > 2 && p%64 == 1 {
			checkLog(t, g*g%p, g, p, 0, api.ErrNone)
		}
		if t.Failed() {
			return
		}
	}
}

func TestH2Edges(t *testing.T) {
	for _, p := range []int64{2, 3, 5, 7, 1009, 65537, 786433, lastPrime} {
		for _, g := range slices.Concat(edges, []int64{p, -p, p - 1, p + 1, most / p * p, -most / p * p, most/p*p - 1}) {
			list := logs(g, p)
			for _, a := range slices.Concat(edges, []int64{p, -p, p - 1, p + 1, most / p * p, -most / p * p, most/p*p - 1}) {
				checkCounted(t, g, a, p, list)
			}
		}
	}
}

func TestH2AgainAndAgain(t *testing.T) {
	for range 200 {
		checkBase(t, 760321, 73, api.OK)
		checkLog(t, 73, pow(73, 760319, 760321), 760321, 760319, api.OK)
		checkLog(t, 73*73, 73, 760321, 0, api.ErrNone)
	}
}
