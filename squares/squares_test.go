package squares_test

import (
	"math"
	"testing"

	"lockwright/api"
	"lockwright/squares"
)

const (
	most = int64(api.MaxNum)
	mod  = int64(api.MaxMod)
	// lastPrime is the greatest prime up to MaxMod.
	lastPrime = int64(1048573)
)

// farNumbers: what no call takes as a, just beyond the limits and as far out as can be.
var farNumbers = []int64{most + 1, -most - 1, 1<<32 + 1, -1<<32 + 1, math.MaxInt64, math.MinInt64, math.MinInt64 + 1}

// farModuli: what no call takes as n or p, odd ones and even ones.
var farModuli = []int64{0, -1, -2, -7, -mod, -mod + 1, mod + 1, mod + 2, mod + 7, 1<<32 + 7, most - 1, most, math.MaxInt64, math.MinInt64, math.MinInt64 + 1}

// edges: what every call takes as a, at the limits and around 0.
var edges = []int64{-most, -most + 1, -mod - 1, -mod, -2, -1, 0, 1, 2, 3, mod - 1, mod, mod + 1, most - 1, most}

// left answers what is left of n, divided by m, from 0 on.
func left(n, m int64) int64 { return (n%m + m) % m }

// leastDivisors has for each number up to MaxMod the least prime that divides it.
func leastDivisors() []int64 {
	least := make([]int64, mod+1)
	for p := int64(2); p <= mod; p++ {
		if least[p] != 0 {
			continue
		}
		for n := p; n <= mod; n += p {
			if least[n] == 0 {
				least[n] = p
			}
		}
	}
	return least
}

func isPrime(n int64) bool {
	for d := int64(2); d*d <= n; d++ {
		if n%d == 0 {
			return false
		}
	}
	return n > 1
}

// roots squares every number below p, and has for what is left the least of them; -1, where there is none.
func roots(p int64) []int64 {
	list := make([]int64, p)
	for i := range list {
		list[i] = -1
	}
	for x := range p {
		if s := x * x % p; list[s] < 0 {
			list[s] = x
		}
	}
	return list
}

// ofPrime is E1's first half: what Jacobi is by a prime p with those roots.
func ofPrime(a, p int64, list []int64) int {
	switch a = left(a, p); {
	case a == 0:
		return 0
	case list[a] >= 0:
		return 1
	}
	return -1
}

// counted is E1's second half: the product by the primes of n, found by dividing, each with its squares counted out.
func counted(a, n int64, table map[int64][]int64) int {
	product := 1
	for p := int64(2); n > 1; p++ {
		for ; n%p == 0; n /= p {
			if table[p] == nil {
				table[p] = roots(p)
			}
			product *= ofPrime(a, p, table[p])
		}
	}
	return product
}

func checkJacobi(t *testing.T, a, n int64, want int, wrong api.Errno) {
	t.Helper()
	if j, e := squares.Jacobi(a, n); j != want || e != wrong {
		t.Errorf("Jacobi(%d, %d) = %d, %d; want %d, %d", a, n, j, e, want, wrong)
	}
}

func checkRoot(t *testing.T, a, p, want int64, wrong api.Errno) {
	t.Helper()
	if r, e := squares.Root(a, p); r != want || e != wrong {
		t.Errorf("Root(%d, %d) = %d, %d; want %d, %d", a, p, r, e, want, wrong)
	}
}

// checkCountedRoot holds Root against the counted roots of p.
func checkCountedRoot(t *testing.T, a, p int64, list []int64) {
	t.Helper()
	if r := list[left(a, p)]; r >= 0 {
		checkRoot(t, a, p, r, api.OK)
	} else {
		checkRoot(t, a, p, 0, api.ErrNone)
	}
}

func TestE1Named(t *testing.T) {
	for _, c := range []struct {
		a, n int64
		want int
	}{
		{2, 7, 1},
		{3, 7, -1},
		{7, 7, 0},
		{0, 7, 0},
		{-1, 5, 1},
		{-1, 7, -1},
		{5, 21, 1}, // no square leaves 5: it has a root neither by 3 nor by 7
		{2, 15, 1},
		{3, 9, 0},
		{2, 9, 1},
		{2, 27, -1},
		{6, 15, 0},
		{1001, 9907, -1},
		{0, 3, 0},
		{0, 9, 0},
	} {
		checkJacobi(t, c.a, c.n, c.want, api.OK)
	}
}

// 1 has no primes, and the product of none is 1, whatever a is.
func TestE1OfOne(t *testing.T) {
	for _, a := range edges {
		checkJacobi(t, a, 1, 1, api.OK)
	}
}

func TestE1SmallNumbers(t *testing.T) {
	table := map[int64][]int64{}
	for n := int64(1); n <= 401; n += 2 {
		for a := -2 * n; a <= 2*n; a++ {
			checkJacobi(t, a, n, counted(a, n, table), api.OK)
		}
	}
}

func TestE1Edges(t *testing.T) {
	table := map[int64][]int64{}
	for _, n := range []int64{
		3, 5, 7, 1009, 65537, 786433, lastPrime, mod - 1,
		1021 * 1021, 1019 * 1021, 3 * 349507, 531441, 390625, 823543, 3 * 5 * 7 * 11 * 13 * 17,
	} {
		for _, a := range edges {
			checkJacobi(t, a, n, counted(a, n, table), api.OK)
		}
		for _, a := range []int64{n - 1, n, n + 1, -n, most / n * n, -most / n * n, most/n*n - 1} {
			checkJacobi(t, a, n, counted(a, n, table), api.OK)
		}
	}
}

// Every odd n is asked of numbers at the limits: what is known of its primes is put together anew.
func TestE1AllModuli(t *testing.T) {
	least := leastDivisors()
	numbers := []int64{-most, -1, 2, 3, 15015, most - 1}
	known := make([][]int, mod+1)
	for n := int64(3); n <= mod && !t.Failed(); n += 2 {
		p := least[n]
		known[n] = make([]int, len(numbers))
		for i, a := range numbers {
			if p == n {
				known[n][i] = byEuler(a, p)
			} else {
				known[n][i] = known[p][i] * known[n/p][i]
			}
			checkJacobi(t, a, n, known[n][i], api.OK)
		}
	}
}

// byEuler raises a to (p - 1) / 2, which leaves 1 by a prime p just of what has a root, and -1 of what has none.
func byEuler(a, p int64) int {
	square, product := left(a, p), int64(1)
	for k := (p - 1) / 2; k > 0; k /= 2 {
		if k%2 == 1 {
			product = product * square % p
		}
		square = square * square % p
	}
	if product == p-1 {
		return -1
	}
	return int(product)
}

func TestE1Even(t *testing.T) {
	for _, n := range []int64{2, 4, 6, 8, 1024, mod - 2, mod} {
		for _, a := range edges {
			checkJacobi(t, a, n, 0, api.ErrRange)
		}
	}
}

func TestE1TooFar(t *testing.T) {
	for _, a := range farNumbers {
		for _, n := range []int64{1, 2, 3, 7, 9, mod - 1, mod} {
			checkJacobi(t, a, n, 0, api.ErrRange)
		}
	}
	for _, n := range farModuli {
		for _, a := range edges {
			checkJacobi(t, a, n, 0, api.ErrRange)
		}
		for _, a := range farNumbers {
			checkJacobi(t, a, n, 0, api.ErrRange)
		}
	}
}

func TestE2Named(t *testing.T) {
	checkRoot(t, 2, 7, 3, api.OK)
	checkRoot(t, 4, 7, 2, api.OK)
	checkRoot(t, 0, 3, 0, api.OK)
	checkRoot(t, 1, 3, 1, api.OK)
	checkRoot(t, -1, 5, 2, api.OK)
	checkRoot(t, -14, 7, 0, api.OK)
	checkRoot(t, 10, 13, 6, api.OK)
	checkRoot(t, 3, 7, 0, api.ErrNone)
	checkRoot(t, 2, 3, 0, api.ErrNone)
	checkRoot(t, -1, 7, 0, api.ErrNone)
}

func TestE2SmallPrimes(t *testing.T) {
	for p := int64(3); p <= 700; p += 2 {
		if !isPrime(p) {
			continue
		}
		list := roots(p)
		for a := -p - 2; a <= 2*p; a++ {
			checkCountedRoot(t, a, p, list)
		}
	}
}

// Of each number of twos that p - 1 can have, up to the 18 of 786433, the greatest prime: so every height of the climb is tried.
func TestE2EveryClimb(t *testing.T) {
	climbs := 0
	for two := int64(2); two < mod; two *= 2 {
		p := mod - two + 1
		for p > 2 && !isPrime(p) {
			p -= 2 * two
		}
		if p < 3 {
			continue
		}
		climbs++
		list := roots(p)
		for a := int64(0); a < p && !t.Failed(); a += 1 + p/20000 {
			checkCountedRoot(t, a, p, list)
		}
		for _, a := range edges {
			checkCountedRoot(t, a, p, list)
		}
		for _, a := range []int64{p - 1, p, p + 1, -p, most / p * p, -most / p * p, most/p*p + 1 - p} {
			checkCountedRoot(t, a, p, list)
		}
	}
	if climbs < 17 {
		t.Errorf("only %d climbs were tried", climbs)
	}
}

// By primes with high climbs every number is asked.
func TestE2WholePrimes(t *testing.T) {
	for _, p := range []int64{40961, 65537, 786433} {
		list := roots(p)
		for a := int64(0); a < p && !t.Failed(); a++ {
			checkCountedRoot(t, a, p, list)
		}
	}
}

// By every odd prime, a number up to its half is the Root of its own square: the other root is above the half.
func TestE2AllPrimes(t *testing.T) {
	least := leastDivisors()
	for p := int64(3); p <= mod && !t.Failed(); p += 2 {
		if least[p] != p {
			continue
		}
		for _, x := range []int64{0, 1, p / 3, p / 2} {
			checkRoot(t, x*x%p, p, x, api.OK)
			checkRoot(t, x*x%p-p, p, x, api.OK)
		}
	}
}

// Each p that is no odd prime is told as ErrArg, also where a number with that square is to be had.
func TestE2NoOddPrime(t *testing.T) {
	least := leastDivisors()
	for p := int64(1); p <= mod && !t.Failed(); p++ {
		if p > 2 && least[p] == p {
			continue
		}
		for _, a := range []int64{-most, -1, 0, 1, 2, most} {
			checkRoot(t, a, p, 0, api.ErrArg)
		}
	}
	for _, p := range []int64{1, 2, 4, 9, 15, 21, 561, 1021 * 1021, mod - 1, mod} {
		for _, a := range edges {
			checkRoot(t, a, p, 0, api.ErrArg)
		}
	}
}

// ErrRange is named ahead of ErrArg and ErrNone.
func TestE2TooFar(t *testing.T) {
	for _, a := range farNumbers {
		for _, p := range []int64{1, 2, 3, 7, 9, lastPrime, mod} {
			checkRoot(t, a, p, 0, api.ErrRange)
		}
	}
	for _, p := range farModuli {
		for _, a := range edges {
			checkRoot(t, a, p, 0, api.ErrRange)
		}
		for _, a := range farNumbers {
			checkRoot(t, a, p, 0, api.ErrRange)
		}
	}
}
