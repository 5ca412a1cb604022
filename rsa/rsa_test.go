package rsa_test

import (
	"math"
	"math/rand"
	"slices"
	"testing"

	"lockwright/api"
	"lockwright/rsa"
)

const (
	most = int64(api.MaxNum)
	mod  = int64(api.MaxMod)
	// lastPrime is the greatest prime up to MaxMod, nextPrime the least above it.
	lastPrime = int64(1048573)
	nextPrime = int64(1048583)
)

// example is the document's key.
var example = api.Key{N: 33, E: 3, D: 7}

// farModuli: what no modulus is, just beyond each limit and as far out as can be.
var farModuli = []int64{0, -1, -2, -33, -mod, mod + 1, mod + 2, nextPrime, 1 << 21, most, 1<<32 + 3, 1<<32 + 33, math.MaxInt64, math.MinInt64, math.MinInt64 + 1}

// farExponents: what is no E and no D.
var farExponents = []int64{0, -1, -3, -most, most + 1, most + 3, 1<<32 + 3, 1<<32 + 7, math.MaxInt64, math.MinInt64, math.MinInt64 + 1}

// isPrime tries every number below n.
func isPrime(n int64) bool {
	for d := int64(2); d < n; d++ {
		if n%d == 0 {
			return false
		}
	}
	return n > 1
}

// primesTo answers the primes up to n by crossing out.
func primesTo(n int64) []int64 {
	crossed := make([]bool, n+1)
	var list []int64
	for p := int64(2); p <= n; p++ {
		if crossed[p] {
			continue
		}
		list = append(list, p)
		for c := p * p; c <= n; c += p {
			crossed[c] = true
		}
	}
	return list
}

func gcd(a, b int64) int64 {
	for b != 0 {
		a, b = b, a%b
	}
	return a
}

// wantKey goes through T1's words; each D is tried, up to a number behind which all comes round.
func wantKey(p, q, e int64) (api.Key, api.Errno) {
	for _, n := range []int64{p, q, e} {
		if n < 1 || n > mod {
			return api.Key{}, api.ErrRange
		}
	}
	if !isPrime(p) || !isPrime(q) || p == q {
		return api.Key{}, api.ErrArg
	}
	if p*q > mod {
		return api.Key{}, api.ErrLarge
	}
	if e > p*q {
		return api.Key{}, api.ErrRange
	}
	for d := int64(1); d <= (p-1)*(q-1); d++ {
		if d*e%(p-1) == 1 && d*e%(q-1) == 1 {
			return api.Key{N: p * q, E: e, D: d}, api.OK
		}
	}
	return api.Key{}, api.ErrNone
}

// counted answers what x^k leaves, divided by n, multiplying k times.
func counted(x, k, n int64) int64 {
	product := 1 % n
	for range k {
		product = product * x % n
	}
	return product
}

// pow does so by squaring, for an exponent that is too great to be counted out.
func pow(x, k, n int64) int64 {
	if k == 0 {
		return 1 % n
	}
	half := pow(x, k/2, n)
	if k%2 == 0 {
		return half * half % n
	}
	return half * half % n * x % n
}

func askMake(t *testing.T, p, q, e int64, want api.Key, wrong api.Errno) {
	t.Helper()
	if k, got := rsa.Make(p, q, e); k != want || got != wrong {
		t.Errorf("Make(%d, %d, %d) = %v, %d; want %v, %d", p, q, e, k, got, want, wrong)
	}
}

func askLock(t *testing.T, k api.Key, x, want int64, wrong api.Errno) {
	t.Helper()
	if y, e := rsa.Lock(k, x); y != want || e != wrong {
		t.Errorf("Lock(%v, %d) = %d, %d; want %d, %d", k, x, y, e, want, wrong)
	}
}

func askOpen(t *testing.T, k api.Key, y, want int64, wrong api.Errno) {
	t.Helper()
	if x, e := rsa.Open(k, y); x != want || e != wrong {
		t.Errorf("Open(%v, %d) = %d, %d; want %d, %d", k, y, x, e, want, wrong)
	}
}

// askParts asks with both primes in both orders.
func askParts(t *testing.T, p, q int64, k api.Key, y, want int64, wrong api.Errno) {
	t.Helper()
	for _, pair := range [][2]int64{{p, q}, {q, p}} {
		if x, e := rsa.Parts(pair[0], pair[1], k, y); x != want || e != wrong {
			t.Errorf("Parts(%d, %d, %v, %d) = %d, %d; want %d, %d", pair[0], pair[1], k, y, x, e, want, wrong)
		}
	}
}

func TestT1Named(t *testing.T) {
	askMake(t, 3, 11, 3, example, api.OK)
	askMake(t, 11, 3, 3, example, api.OK)
	askMake(t, 3, 11, 1, api.Key{N: 33, E: 1, D: 1}, api.OK)
	askMake(t, 3, 11, 33, api.Key{N: 33, E: 33, D: 7}, api.OK)
	askMake(t, 3, 11, 5, api.Key{}, api.ErrNone)
	askMake(t, 3, 11, 2, api.Key{}, api.ErrNone)
	askMake(t, 3, 11, 34, api.Key{}, api.ErrRange)
	askMake(t, 11, 11, 3, api.Key{}, api.ErrArg)
	askMake(t, 3, 9, 3, api.Key{}, api.ErrArg)
	askMake(t, 61, 53, 17, api.Key{N: 3233, E: 17, D: 413}, api.OK)
}

// The least D is often below what the product of p - 1 and q - 1 leads to: by 7 and 13 it is below 12, not below 72.
func TestT1LeastD(t *testing.T) {
	askMake(t, 7, 13, 5, api.Key{N: 91, E: 5, D: 5}, api.OK)
	askMake(t, 7, 13, 7, api.Key{N: 91, E: 7, D: 7}, api.OK)
	askMake(t, 7, 13, 17, api.Key{N: 91, E: 17, D: 5}, api.OK)
	askMake(t, 7, 13, 89, api.Key{N: 91, E: 89, D: 5}, api.OK)
	askMake(t, 5, 3, 15, api.Key{N: 15, E: 15, D: 3}, api.OK)
}

func TestT1SmallNumbers(t *testing.T) {
	for p := int64(-2); p <= 24; p++ {
		for q := int64(-2); q <= 24; q++ {
			for e := int64(-2); e <= max(p*q, 0)+4; e++ {
				want, wrong := wantKey(p, q, e)
				askMake(t, p, q, e, want, wrong)
			}
		}
	}
}

// Divided by 1, nothing leaves 1: so with the prime 2 there is no D, whatever e is.
func TestT1OfTwo(t *testing.T) {
	for _, q := range []int64{3, 5, 7, 11, 65537, 524287} {
		for _, e := range []int64{1, 2, 3, 5, 7, q - 1, q, q + 1, 2*q - 1, 2 * q} {
			want := api.ErrNone
			if e > 2*q {
				want = api.ErrRange
			}
			askMake(t, 2, q, e, api.Key{}, want)
			askMake(t, q, 2, e, api.Key{}, want)
		}
	}
	askMake(t, 2, 2, 1, api.Key{}, api.ErrArg)
}

// settled tells whether the answer is T1's, of primes above 2 whose product is at most MaxMod.
func settled(k api.Key, wrong api.Errno, p, q, e int64) bool {
	apart := (p - 1) / gcd(p-1, q-1) * (q - 1)
	if gcd(e, apart) != 1 {
		return k == api.Key{} && wrong == api.ErrNone
	}
	// Of all that serve one alone is below the least number that both divide.
	return wrong == api.OK && k.N == p*q && k.E == e && k.D >= 1 && k.D < apart && k.D*e%(p-1) == 1 && k.D*e%(q-1) == 1
}

func TestT1EveryPairOfPrimes(t *testing.T) {
	r := rand.New(rand.NewSource(1))
	odd := primesTo(mod / 3)[1:]
	pairs := 0
	for i, p := range odd {
		for _, q := range odd[i+1:] {
			if p*q > mod {
				break
			}
			pairs++
			for _, e := range []int64{3, 65537%(p*q) + 1, p*q - 1, p * q, 1 + r.Int63n(p*q)} {
				if k, wrong := rsa.Make(p, q, e); !settled(k, wrong, p, q, e) {
					t.Errorf("Make(%d, %d, %d) = %v, %d", p, q, e, k, wrong)
				}
				askMake(t, p, q, p*q+1, api.Key{}, api.ErrRange)
			}
		}
	}
	if pairs < 100000 {
		t.Errorf("only %d pairs of primes were tried", pairs)
	}
}

func TestT1Product(t *testing.T) {
	for _, c := range []struct {
		p, q  int64
		wrong api.Errno
	}{
		{911, 1151, api.OK},
		{3, 349519, api.OK},
		{17, 61681, api.ErrLarge},
		{5, 209717, api.ErrLarge},
		{3, 349529, api.ErrLarge},
		{2, 524309, api.ErrLarge},
		{2, lastPrime, api.ErrLarge},
		{1021, 1031, api.ErrLarge},
		{1019, 1021, api.OK},
		{65521, 65537, api.ErrLarge},
		{1048571, lastPrime, api.ErrLarge},
	} {
		want := api.Key{}
		if c.wrong == api.OK {
			want = api.Key{N: c.p * c.q, E: 1, D: 1}
		}
		askMake(t, c.p, c.q, 1, want, c.wrong)
		askMake(t, c.q, c.p, 1, want, c.wrong)
	}
}

// Of each two things that are wrong the one that is named first is told.
func TestT1Errors(t *testing.T) {
	for _, far := range farModuli {
		for _, n := range []int64{1, 2, 3, 4, 11, lastPrime, mod, far} {
			askMake(t, far, 11, n, api.Key{}, api.ErrRange)
			askMake(t, 11, far, n, api.Key{}, api.ErrRange)
			askMake(t, far, n, 3, api.Key{}, api.ErrRange)
			askMake(t, n, far, 3, api.Key{}, api.ErrRange)
			askMake(t, n, n, far, api.Key{}, api.ErrRange)
			askMake(t, 11, n, far, api.Key{}, api.ErrRange)
			askMake(t, n, 3, far, api.Key{}, api.ErrRange)
		}
	}
	for _, e := range []int64{1, 3, 34, 100, mod} {
		// No primes, or the same one, ahead of a product that is too great, and of an e above it.
		for _, pair := range [][2]int64{{1, 1}, {1, 3}, {1, lastPrime}, {3, 1}, {4, 9}, {3, 9}, {9, 3}, {3, 3}, {2, 2}, {mod, mod}, {mod, 3}, {3, mod}, {lastPrime, lastPrime}, {lastPrime, 4}, {1021, 1021}, {1031, 1031}, {561, 11}} {
			askMake(t, pair[0], pair[1], e, api.Key{}, api.ErrArg)
		}
		askMake(t, lastPrime, 3, e, api.Key{}, api.ErrLarge)
		askMake(t, 1021, 1031, e, api.Key{}, api.ErrLarge)
	}
	// An e above the product ahead of no D.
	for _, e := range []int64{34, 35, 36, 40, mod - 1, mod} {
		askMake(t, 3, 11, e, api.Key{}, api.ErrRange)
		askMake(t, 2, 11, e, api.Key{}, api.ErrRange)
	}
}

func TestT2Named(t *testing.T) {
	askLock(t, example, 4, 31, api.OK)
	askOpen(t, example, 31, 4, api.OK)
	askParts(t, 3, 11, example, 31, 4, api.OK)
	askLock(t, example, 0, 0, api.OK)
	askLock(t, example, 32, 32, api.OK)
	askLock(t, example, 33, 0, api.ErrRange)
	askLock(t, example, -1, 0, api.ErrRange)
	askOpen(t, example, 33, 0, api.ErrRange)
	askOpen(t, example, -1, 0, api.ErrRange)
	askParts(t, 3, 11, example, 33, 0, api.ErrRange)
	askParts(t, 3, 11, example, -1, 0, api.ErrRange)
	askParts(t, 3, 13, example, 31, 0, api.ErrArg)
}

// Every modulus serves, not products of two primes alone.
func TestT2SmallNumbers(t *testing.T) {
	for n := int64(1); n <= 40; n++ {
		for k := int64(1); k <= 12; k++ {
			for x := int64(-3); x <= n+3; x++ {
				want, wrong := int64(0), api.ErrRange
				if x >= 0 && x < n {
					want, wrong = counted(x, k, n), api.OK
				}
				askLock(t, api.Key{N: n, E: k, D: k + 1}, x, want, wrong)
				askOpen(t, api.Key{N: n, E: k + 1, D: k}, x, want, wrong)
			}
		}
	}
}

func TestT2Limits(t *testing.T) {
	for _, n := range []int64{1, 2, 3, 33, 911 * 1151, 1 << 16, lastPrime, mod - 1, mod} {
		for _, k := range []int64{1, 2, 3, 5, n, mod, mod + 1, lastPrime, most / 2, most - 1, most} {
			for _, x := range []int64{0, 1, 2, 3, n / 2, n - 2, n - 1} {
				if x < 0 || x >= n {
					continue
				}
				askLock(t, api.Key{N: n, E: k, D: 1}, x, pow(x, k, n), api.OK)
				askOpen(t, api.Key{N: n, E: 1, D: k}, x, pow(x, k, n), api.OK)
			}
		}
	}
	// The odd power of what is one less than the modulus is that itself, the even one is 1.
	askLock(t, api.Key{N: mod, E: most - 1, D: 1}, mod-1, mod-1, api.OK)
	askLock(t, api.Key{N: mod, E: most, D: 1}, mod-1, 1, api.OK)
	askOpen(t, api.Key{N: mod, E: 1, D: most - 1}, mod-1, mod-1, api.OK)
	askOpen(t, api.Key{N: mod, E: 1, D: most}, mod-1, 1, api.OK)
	askLock(t, api.Key{N: 1, E: most, D: most}, 0, 0, api.OK)
	askOpen(t, api.Key{N: 1, E: most, D: most}, 0, 0, api.OK)
}

func TestT2Errors(t *testing.T) {
	for _, n := range farModuli {
		for _, x := range []int64{-1, 0, 1, 4, 32, n - 1, n, n + 1} {
			k := api.Key{N: n, E: 3, D: 7}
			askLock(t, k, x, 0, api.ErrRange)
			askOpen(t, k, x, 0, api.ErrRange)
			askParts(t, 3, 11, k, x, 0, api.ErrRange)
			askParts(t, 4, 4, k, x, 0, api.ErrRange)
		}
	}
	for _, x := range []int64{-1, -2, -33, 33, 34, 66, mod, 1 << 32, 1<<32 + 4, math.MaxInt64, math.MinInt64} {
		askLock(t, example, x, 0, api.ErrRange)
		askOpen(t, example, x, 0, api.ErrRange)
		askParts(t, 3, 11, example, x, 0, api.ErrRange)
		askParts(t, 3, 13, example, x, 0, api.ErrRange)
	}
}

// askOutOfRange asks all three calls with a key that is out of bounds, Parts also of what are not its primes.
func askOutOfRange(t *testing.T, k api.Key, x int64) {
	t.Helper()
	askLock(t, k, x, 0, api.ErrRange)
	askOpen(t, k, x, 0, api.ErrRange)
	for _, pair := range [][2]int64{{3, 11}, {3, 13}, {0, 0}, {-3, -11}} {
		askParts(t, pair[0], pair[1], k, x, 0, api.ErrRange)
	}
}

// Each of E and D is to be in range, whichever of the calls it is.
func TestT2EOrDOutOfRange(t *testing.T) {
	for _, far := range farExponents {
		for _, x := range []int64{-1, 0, 1, 4, 31, 32, 33} {
			for _, k := range []int64{1, 3, 7, most, far} {
				askOutOfRange(t, api.Key{N: 33, E: k, D: far}, x)
				askOutOfRange(t, api.Key{N: 33, E: far, D: k}, x)
			}
		}
		for _, n := range []int64{1, 2, 33, mod} {
			askOutOfRange(t, api.Key{N: n, E: 1, D: far}, 0)
			askOutOfRange(t, api.Key{N: n, E: far, D: 1}, 0)
		}
	}
	askOutOfRange(t, api.Key{N: 33}, 0)
	askOutOfRange(t, api.Key{}, 0)
}

// What is in range of the other one changes nothing.
func TestT2OtherOfEAndD(t *testing.T) {
	for _, other := range []int64{1, 2, 3, 33, 34, mod, mod + 1, most - 1, most} {
		for x := range int64(33) {
			askLock(t, api.Key{N: 33, E: 3, D: other}, x, counted(x, 3, 33), api.OK)
			askOpen(t, api.Key{N: 33, E: other, D: 7}, x, counted(x, 7, 33), api.OK)
			askParts(t, 3, 11, api.Key{N: 33, E: other, D: 7}, x, counted(x, 7, 33), api.OK)
		}
	}
}

func TestT2WhatWasLockedIsFound(t *testing.T) {
	odd := primesTo(40)[1:]
	keys := 0
	for _, p := range odd {
		for _, q := range odd {
			for e := int64(1); e <= p*q; e += 1 + e/9 {
				k, wrong := rsa.Make(p, q, e)
				if wrong != api.OK {
					continue
				}
				keys++
				for x := range p * q {
					y, _ := rsa.Lock(k, x)
					askOpen(t, k, y, x, api.OK)
					askParts(t, p, q, k, y, x, api.OK)
				}
			}
		}
	}
	if keys < 1000 {
		t.Errorf("only %d keys were tried", keys)
	}
}

func TestT2GreatKeys(t *testing.T) {
	r := rand.New(rand.NewSource(2))
	list := primesTo(mod / 3)
	keys := 0
	for range 20000 {
		p := list[1+r.Intn(170)]
		last, _ := slices.BinarySearch(list, mod/p+1)
		q := list[1+r.Intn(last-1)]
		k, wrong := rsa.Make(p, q, 1+r.Int63n(p*q))
		if wrong != api.OK {
			continue
		}
		keys++
		for _, x := range []int64{0, 1, p, q, p*q - p, p*q - q, p*q - 1, r.Int63n(p * q), r.Int63n(p * q)} {
			y := pow(x, k.E, k.N)
			askLock(t, k, x, y, api.OK)
			askOpen(t, k, y, x, api.OK)
			askParts(t, p, q, k, y, x, api.OK)
		}
	}
	if keys < 2000 {
		t.Errorf("only %d keys were tried", keys)
	}
}

// Parts is Open also by a D that Make does not answer, with 2 among the primes, and of what a prime divides.
func TestT2PartsOfAnyD(t *testing.T) {
	list := primesTo(24)
	for i, p := range list {
		for _, q := range list[:i] {
			for _, d := range []int64{1, 2, 3, 4, 7, p - 1, p, p * q, p*q + 1, mod, most - 1, most} {
				k := api.Key{N: p * q, E: 1, D: d}
				for y := range p * q {
					askParts(t, p, q, k, y, pow(y, d, p*q), api.OK)
				}
				askParts(t, p, q, k, p*q, 0, api.ErrRange)
			}
		}
	}
	for _, pair := range [][2]int64{{2, 524287}, {911, 1151}, {3, 349519}, {1019, 1021}} {
		p, q := pair[0], pair[1]
		for _, d := range []int64{1, 2, 3, mod, most - 1, most} {
			for _, y := range []int64{0, 1, 2, p, q, p*q - p, p*q - q, p*q - 2, p*q - 1} {
				askParts(t, p, q, api.Key{N: p * q, E: 1, D: d}, y, pow(y, d, p*q), api.OK)
			}
		}
	}
}

// backwards answers the number whose product with an odd n is 1, wrapped round at 2^64.
func backwards(n int64) int64 {
	x := n
	for range 6 {
		x *= 2 - n*x
	}
	return x
}

func TestT2NotTwoPrimesOfN(t *testing.T) {
	for n := int64(1); n <= 60; n++ {
		k := api.Key{N: n, E: 1, D: 3}
		for p := int64(-4); p <= n+2; p++ {
			for q := int64(-4); q <= n+2; q++ {
				want, wrong := int64(0), api.ErrArg
				if isPrime(p) && isPrime(q) && p != q && p*q == n {
					want, wrong = counted(n/2, 3, n), api.OK
				}
				askParts(t, p, q, k, n/2, want, wrong)
			}
		}
	}
	for _, pair := range [][2]int64{{1, 33}, {-3, -11}, {3, -11}, {3, 0}, {0, 0}, {3, 3}, {11, 11}, {3, 7}, {5, 11}, {3, 11 + 1<<32}, {11, 3 + 1<<32}, {mod, mod}, {lastPrime, nextPrime}, {math.MaxInt64, math.MaxInt64}, {math.MinInt64, math.MinInt64}, {math.MinInt64, 3}, {11, math.MaxInt64}} {
		askParts(t, pair[0], pair[1], example, 4, 0, api.ErrArg)
	}
	// Products that are N only as they wrap round.
	for _, p := range []int64{5, 7, 13, lastPrime, nextPrime, 1<<31 - 1} {
		q := 33 * backwards(p)
		if p*q != 33 {
			t.Fatalf("%d * %d is %d", p, q, p*q)
		}
		askParts(t, p, q, example, 4, 0, api.ErrArg)
	}
	// The square of a prime has not two.
	for _, p := range []int64{2, 3, 11, 1021} {
		askParts(t, p, p, api.Key{N: p * p, E: 1, D: 1}, 1, 0, api.ErrArg)
		askParts(t, 1, p*p, api.Key{N: p * p, E: 1, D: 1}, 1, 0, api.ErrArg)
		askParts(t, 1, p, api.Key{N: p, E: 1, D: 1}, 1, 0, api.ErrArg)
	}
}

func TestT2AgainAndAgain(t *testing.T) {
	for range 200 {
		askMake(t, 3, 11, 3, example, api.OK)
		askLock(t, example, 4, 31, api.OK)
		askOpen(t, example, 31, 4, api.OK)
		askParts(t, 3, 11, example, 31, 4, api.OK)
		askMake(t, 7, 13, 5, api.Key{N: 91, E: 5, D: 5}, api.OK)
	}
}
