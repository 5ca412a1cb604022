package liars_test

import (
	"math"
	"testing"

	"lockwright/api"
	"lockwright/liars"
)

const (
	most  = int64(api.MaxNum)
	mod   = int64(api.MaxMod)
	count = int64(api.MaxCount)
	// lastPrime is the greatest prime up to MaxMod.
	lastPrime = int64(1048573)
)

// farNumbers: what no call takes as a, just beyond the limits and as far out as can be.
var farNumbers = []int64{most + 1, -most - 1, 1<<32 + 1, -1<<32 + 1, math.MaxInt64, math.MinInt64, math.MinInt64 + 1}

// farModuli: what no call takes as n: below 3, above MaxMod, or even.
var farModuli = []int64{
	1, 0, -1, -2, -3, -9, -mod, -mod + 1, mod + 1, mod + 3, 1<<32 + 9, most - 1, most, math.MaxInt64, math.MinInt64, math.MinInt64 + 1,
	2, 4, 6, 8, 10, 340, 4096, mod - 2, mod,
}

// edges: what every call takes as a, at the limits and around 0.
var edges = []int64{-most, -most + 1, -mod - 1, -mod, -2, -1, 0, 1, 2, 3, mod - 1, mod, mod + 1, most - 1, most}

// test: one of the three, with its name.
type test struct {
	name string
	ask  func(a, n int64) (bool, api.Errno)
	want func(a, n int64) bool
}

var tests = []test{
	{"Fermat", liars.Fermat, wantFermat},
	{"Euler", liars.Euler, wantEuler},
	{"Strong", liars.Strong, wantStrong},
}

// left answers what is left of n, divided by m, from 0 on.
func left(n, m int64) int64 { return (n%m + m) % m }

// leastDivisors has for each number up to MaxMod the least prime that divides it.
func leastDivisors() []int64 {
	least := make([]int64, mod+1)
	for p := int64(2); p <= mod; p++ {
		if least[p] != 0 {
			continue
		}
		for n := p; n <= mod; n += p {
			if least[n] == 0 {
				least[n] = p
			}
		}
	}
	return least
}

// pow answers what a^k leaves, divided by n.
func pow(a, k, n int64) int64 {
	square, product := left(a, n), 1%n
	for ; k > 0; k /= 2 {
		if k%2 == 1 {
			product = product * square % n
		}
		square = square * square % n
	}
	return product
}

// symbol is the Jacobi symbol as E1 says it: put together of the primes of n, each asked by Euler's power.
func symbol(a, n int64) int64 {
	product := int64(1)
	for p := int64(3); n > 1; p += 2 {
		if p*p > n {
			p = n
		}
		for ; n%p == 0; n /= p {
			switch pow(a, (p-1)/2, p) {
			case 0:
				return 0
			case p - 1:
				product = -product
			}
		}
	}
	return product
}

func wantFermat(a, n int64) bool { return pow(a, n-1, n) == 1 }

func wantEuler(a, n int64) bool {
	j := symbol(a, n)
	return j != 0 && pow(a, (n-1)/2, n) == left(j, n)
}

// wantStrong raises a anew to each of d, 2 d, 4 d, ..: n - 1 itself is never among them.
func wantStrong(a, n int64) bool {
	d := n - 1
	for d%2 == 0 {
		d /= 2
	}
	so := pow(a, d, n) == 1
	for k := d; k < n-1; k *= 2 {
		so = so || pow(a, k, n) == n-1
	}
	return so
}

func check(t *testing.T, q test, a, n int64, want bool, wrong api.Errno) {
	t.Helper()
	if is, e := q.ask(a, n); is != want || e != wrong {
		t.Errorf("%s(%d, %d) = %t, %d; want %t, %d", q.name, a, n, is, e, want, wrong)
	}
}

func checkCount(t *testing.T, n, want int64, wrong api.Errno) {
	t.Helper()
	if c, e := liars.Count(n); c != want || e != wrong {
		t.Errorf("Count(%d) = %d, %d; want %d, %d", n, c, e, want, wrong)
	}
}

func TestF1Named(t *testing.T) {
	for _, c := range []struct {
		a, n                  int64
		fermat, euler, strong bool
	}{
		{1, 3, true, true, true},
		{2, 3, true, true, true},
		{-1, 3, true, true, true},
		{0, 3, false, false, false},
		{3, 3, false, false, false},
		{1, 9, true, true, true},
		{8, 9, true, true, true},
		{-1, 9, true, true, true},
		{2, 9, false, false, false},
		{3, 9, false, false, false}, // both sides of Euler are 0
		{0, 9, false, false, false},
		{2, 341, true, false, false}, // 2^170 leaves 1, the symbol is -1
		{2, 561, true, true, false},  // 2^280 leaves 1, 2^140 leaves 67
		{2, 2047, true, true, true},
		{2, 3277, true, true, true},
		{4, 15, true, false, false}, // 4^7 leaves 4, the symbol is 1
		{-1, 15, true, true, true},  // the symbol is -1, for 15 leaves 3 by 4
		{7, 25, true, true, true},   // 7^3 leaves 18, and 7^6 leaves 24
		{3, 15, false, false, false},
		{3, 561, false, false, false},
		{7, 13, true, true, true}, // 7^3 is not 12, but 7^6 is
	} {
		for i, want := range []bool{c.fermat, c.euler, c.strong} {
			check(t, tests[i], c.a, c.n, want, api.OK)
		}
	}
}

// The powers are counted out here one by one, so that nothing but multiplying is trusted.
func TestF1CountedOut(t *testing.T) {
	for n := int64(3); n <= 301; n += 2 {
		odd := n - 1
		for odd%2 == 0 {
			odd /= 2
		}
		for a := -n; a <= 2*n; a++ {
			powers := []int64{1}
			for range n {
				powers = append(powers, left(powers[len(powers)-1]*a, n))
			}
			strong := powers[odd] == 1
			for k := odd; k < n-1; k *= 2 {
				strong = strong || powers[k] == n-1
			}
			j := symbol(a, n)
			check(t, tests[0], a, n, powers[n-1] == 1, api.OK)
			check(t, tests[1], a, n, j != 0 && powers[(n-1)/2] == left(j, n), api.OK)
			check(t, tests[2], a, n, strong, api.OK)
		}
	}
}

func TestF1Edges(t *testing.T) {
	for _, n := range []int64{
		3, 5, 7, 9, 15, 561, 1009, 65535, 65537, 786433, lastPrime, mod - 1, mod - 5,
		1021 * 1021, 1019 * 1021, 3 * 349507, 531441, 390625, 823543, 3 * 5 * 7 * 11 * 13 * 17, 1004653,
	} {
		for _, q := range tests {
			for _, a := range edges {
				check(t, q, a, n, q.want(a, n), api.OK)
			}
			for _, a := range []int64{n - 1, n, n + 1, -n, 1 - n, most / n * n, -most / n * n, most/n*n - 1, 1 - most/n*n} {
				check(t, q, a, n, q.want(a, n), api.OK)
			}
		}
	}
}

// Every odd n up to MaxMod is asked of a few numbers, by each of the three.
func TestF1AllModuli(t *testing.T) {
	for n := int64(3); n <= mod && !t.Failed(); n += 2 {
		for _, a := range []int64{-most, 2, n / 3} {
			for _, q := range tests {
				check(t, q, a, n, q.want(a, n), api.OK)
			}
		}
	}
}

// No number is a liar by a prime: all three hold, unless the prime divides a.
func TestF1Primes(t *testing.T) {
	least := leastDivisors()
	for p := int64(3); p <= mod && !t.Failed(); p += 2 {
		if least[p] != p {
			continue
		}
		for _, q := range tests {
			for _, a := range []int64{1, -1, 2, 3 - p, p / 2, most} {
				check(t, q, a, p, a%p != 0, api.OK)
			}
			check(t, q, p, p, false, api.OK)
			check(t, q, 0, p, false, api.OK)
		}
	}
}

// How many numbers below a million that are no primes seem by 2 to be some is known of old: 245, 114 and 46.
func TestF1SeemingPrimes(t *testing.T) {
	least := leastDivisors()
	for i, want := range []int{245, 114, 46} {
		found := 0
		for n := int64(3); n < 1000000; n += 2 {
			if is, _ := tests[i].ask(2, n); is && least[n] != n {
				found++
			}
		}
		if found != want {
			t.Errorf("%s of 2 holds for %d numbers that are no primes; want %d", tests[i].name, found, want)
		}
	}
}

// What is Strong is Euler, what is Euler is Fermat; and none of them looks at more of a than what it leaves.
func TestF1EachWithinTheNext(t *testing.T) {
	for n := int64(3); n <= 701; n += 2 {
		for a := range n {
			var is [3]bool
			for i, q := range tests {
				is[i], _ = q.ask(a, n)
				check(t, q, a-n*(most/n), n, is[i], api.OK)
			}
			if is[2] && !is[1] || is[1] && !is[0] {
				t.Errorf("of %d and %d: Fermat, Euler, Strong are %v", a, n, is)
			}
		}
	}
}

func TestF1TooFar(t *testing.T) {
	for _, q := range tests {
		for _, a := range farNumbers {
			for _, n := range []int64{3, 4, 7, 9, lastPrime, mod - 1, mod} {
				check(t, q, a, n, false, api.ErrRange)
			}
		}
		for _, n := range farModuli {
			for _, a := range edges {
				check(t, q, a, n, false, api.ErrRange)
			}
			for _, a := range farNumbers {
				check(t, q, a, n, false, api.ErrRange)
			}
		}
	}
}

func TestF2Named(t *testing.T) {
	for _, c := range [][2]int64{{3, 2}, {5, 4}, {7, 6}, {9, 2}, {15, 2}, {21, 2}, {25, 4}, {49, 6}, {91, 18}, {561, 10}, {4093, 4092}, {4095, 2}} {
		checkCount(t, c[0], c[1], api.OK)
	}
}

func TestF2CountsStrong(t *testing.T) {
	for n := int64(3); n <= 601; n += 2 {
		sum := int64(0)
		for a := int64(1); a < n; a++ {
			if wantStrong(a, n) {
				sum++
			}
		}
		checkCount(t, n, sum, api.OK)
	}
}

// Every n that Count takes is held against the count that the primes of n give.
func TestF2AllByPrimes(t *testing.T) {
	for n := int64(3); n <= count; n += 2 {
		checkCount(t, n, byPrimes(n), api.OK)
	}
}

// byPrimes counts without asking any number. With d the odd part of n - 1, by each prime p of n gcd(d, p - 1) numbers have a d-th power that leaves 1;
// and -1 is a (2^i d)-th power by all of them at once only for an i below the twos of every p - 1, each time of 2^i as many by each prime.
func byPrimes(n int64) int64 {
	odd, _ := oddAndTwos(n - 1)
	product, primes, fewest := int64(1), int64(0), int64(64)
	for p, rest := int64(3), n; rest > 1; p += 2 {
		if rest%p != 0 {
			continue
		}
		for rest%p == 0 {
			rest /= p
		}
		part, twos := oddAndTwos(p - 1)
		product *= gcd(odd, part)
		primes++
		fewest = min(fewest, twos)
	}
	ways := int64(1)
	for i := range fewest {
		ways += 1 << (i * primes)
	}
	return product * ways
}

func oddAndTwos(n int64) (int64, int64) {
	twos := int64(0)
	for ; n%2 == 0; n /= 2 {
		twos++
	}
	return n, twos
}

func gcd(a, b int64) int64 {
	for b != 0 {
		a, b = b, a%b
	}
	return a
}

func TestF2Refused(t *testing.T) {
	for n := int64(0); n <= count; n += 2 {
		checkCount(t, n, 0, api.ErrRange)
	}
	for _, n := range farModuli {
		checkCount(t, n, 0, api.ErrRange)
	}
	for _, n := range []int64{count + 1, count + 2, count + 3, 2*count - 1, 65537, lastPrime, mod - 1} {
		checkCount(t, n, 0, api.ErrRange)
	}
}
