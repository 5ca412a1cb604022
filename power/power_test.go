package power_test

import (
	"math"
	"math/big"
	"slices"
	"testing"

	"lockwright/api"
	"lockwright/power"
)

const (
	most  = int64(api.MaxNum)
	mod   = int64(api.MaxMod)
	small = int64(60)
)

// edges: numbers that every call takes for a, at the limits and around 0.
var edges = []int64{-most, -most + 1, -mod - 1, -mod, -7, -2, -1, 0, 1, 2, 3, 10, mod - 1, mod, mod + 1, 1836311903, most - 1, most}

// moduli: numbers that every call takes for m: the limits, powers of 2 and of other primes, primes, and products of many.
var moduli = []int64{1, 2, 4, 8, 16, 3, 9, 531441, 1009, 1021 * 1021, 1019 * 1021, 2 * 509 * 509, 561, 510510, 720720, 983040, mod / 2, 1048573, mod - 1, mod}

// farNumbers, farExponents, farModuli: what no call takes, just beyond the limits and as far out as can be.
var (
	farNumbers   = []int64{most + 1, -most - 1, 1<<32 + 3, -1<<32 + 3, math.MaxInt64, math.MinInt64, math.MinInt64 + 1}
	farExponents = []int64{-1, -2, -most, most + 1, 1<<32 + 1, math.MaxInt64, math.MinInt64}
	farModuli    = []int64{0, -1, -8, -mod, mod + 1, mod + 2, most, 1<<32 + 8, math.MaxInt64, math.MinInt64}
)

// left answers what is left of n, divided by m, from 0 on.
func left(n, m int64) int64 {
	r := n % m
	if r < 0 {
		r += m
	}
	return r
}

// gcd answers what divides both n and m, from 1 on; m is from 1 on.
func gcd(n, m int64) int64 {
	n = left(n, m)
	for n != 0 {
		n, m = m%n, n
	}
	return m
}

// lcm answers the least number that both a and b divide, both from 1 on.
func lcm(a, b int64) int64 { return a / gcd(a, b) * b }

// countedOrder goes through the powers one by one, as C1 says it; of what they leave there are only m, so m of them are enough.
func countedOrder(a, m int64) (int64, api.Errno) {
	x := left(1, m)
	for k := int64(1); k <= m; k++ {
		x = x * left(a, m) % m
		if x == left(1, m) {
			return k, api.OK
		}
	}
	return 0, api.ErrNone
}

// countedLambda tries every exponent with every a that has an Order, as C1 says it.
func countedLambda(m int64) int64 {
	var bases []int64
	for a := range m {
		if _, e := countedOrder(a, m); e == api.OK {
			bases = append(bases, a)
		}
	}
	powers := make([]int64, len(bases))
	for i := range powers {
		powers[i] = left(1, m)
	}
	for k := int64(1); ; k++ {
		all := true
		for i, a := range bases {
			powers[i] = powers[i] * a % m
			all = all && powers[i] == left(1, m)
		}
		if all {
			return k
		}
	}
}

// bigPow reckons a power by the library's great numbers.
func bigPow(a, k, m int64) int64 {
	return new(big.Int).Exp(big.NewInt(left(a, m)), big.NewInt(k), big.NewInt(m)).Int64()
}

func checkPow(t *testing.T, a, k, m, want int64, wrong api.Errno) {
	t.Helper()
	if x, e := power.Pow(a, k, m); x != want || e != wrong {
		t.Errorf("Pow(%d, %d, %d) = %d, %d; want %d, %d", a, k, m, x, e, want, wrong)
	}
}

func checkOrder(t *testing.T, a, m, want int64, wrong api.Errno) {
	t.Helper()
	if k, e := power.Order(a, m); k != want || e != wrong {
		t.Errorf("Order(%d, %d) = %d, %d; want %d, %d", a, m, k, e, want, wrong)
	}
}

func checkLambda(t *testing.T, m, want int64, wrong api.Errno) {
	t.Helper()
	if k, e := power.Lambda(m); k != want || e != wrong {
		t.Errorf("Lambda(%d) = %d, %d; want %d, %d", m, k, e, want, wrong)
	}
}

func TestC1PowSmallNumbers(t *testing.T) {
	for m := int64(1); m <= small; m++ {
		for a := -2 * small; a <= 2*small; a++ {
			want := left(1, m)
			for k := range small {
				checkPow(t, a, k, m, want, api.OK)
				want = left(want*a, m)
			}
		}
	}
}

func TestC1PowNamed(t *testing.T) {
	for _, c := range []struct{ a, k, m, want int64 }{
		{0, 0, 7, 1},
		{0, 0, 1, 0},
		{5, 0, 1, 0},
		{5, 0, 2, 1},
		{0, 1, 7, 0},
		{0, most, mod, 0},
		{7, 3, 7, 0},
		{-2, 3, 7, 6},
		{-1, most, 5, 1},
		{-1, most - 1, 5, 4},
		{2, 19, mod, mod / 2},
		{2, 20, mod, 0},
		{-most, 1, 3, 1},
		{most, 1, 3, 2},
		{mod - 1, most - 1, mod, mod - 1},
	} {
		checkPow(t, c.a, c.k, c.m, c.want, api.OK)
	}
}

func TestC1PowEdges(t *testing.T) {
	for _, a := range edges {
		for _, m := range moduli {
			checkPow(t, a, 0, m, left(1, m), api.OK)
			checkPow(t, a, 1, m, left(a, m), api.OK)
			for _, k := range []int64{2, 3, 5, 64, 65537, mod - 1, mod, most/2 + 1, most - 2, most - 1, most} {
				checkPow(t, a, k, m, bigPow(a, k, m), api.OK)
			}
		}
	}
}

func TestC1PowTooFar(t *testing.T) {
	for _, a := range slices.Concat(farNumbers, edges) {
		for _, m := range farModuli {
			checkPow(t, a, 1, m, 0, api.ErrRange)
			checkPow(t, a, 0, m, 0, api.ErrRange)
		}
		for _, k := range farExponents {
			checkPow(t, a, k, 7, 0, api.ErrRange)
			checkPow(t, a, k, 1, 0, api.ErrRange)
		}
	}
	for _, a := range farNumbers {
		for _, m := range moduli {
			checkPow(t, a, 0, m, 0, api.ErrRange)
			checkPow(t, a, 1, m, 0, api.ErrRange)
			checkPow(t, a, most, m, 0, api.ErrRange)
		}
	}
	checkPow(t, most+1, -1, 0, 0, api.ErrRange)
}

func TestC1OrderSmallNumbers(t *testing.T) {
	for m := int64(1); m <= 3*small; m++ {
		for a := -small; a <= 4*small; a++ {
			want, wrong := countedOrder(a, m)
			checkOrder(t, a, m, want, wrong)
		}
	}
}

func TestC1OrderNamed(t *testing.T) {
	checkOrder(t, 3, 8, 2, api.OK)
	checkOrder(t, 2, 8, 0, api.ErrNone)
	checkOrder(t, 0, 2, 0, api.ErrNone)
	checkOrder(t, 0, mod, 0, api.ErrNone)
	checkOrder(t, -1, 2, 1, api.OK)
	checkOrder(t, -1, 3, 2, api.OK)
	checkOrder(t, 2, 1048573, 1048572, api.OK)
	checkOrder(t, 3, mod, mod/4, api.OK)
	checkOrder(t, 5, mod, mod/4, api.OK)
	checkOrder(t, -1, mod, 2, api.OK)
	for _, a := range edges {
		checkOrder(t, a, 1, 1, api.OK)
	}
}

func TestC1OrderEdges(t *testing.T) {
	for _, a := range edges {
		for _, m := range moduli {
			want, wrong := countedOrder(a, m)
			checkOrder(t, a, m, want, wrong)
		}
	}
}

// leastPrimes has for each number up to MaxMod the least prime that divides it, by crossing out.
func leastPrimes() []int64 {
	least := make([]int64, mod+1)
	for p := int64(2); p <= mod; p++ {
		if least[p] != 0 {
			continue
		}
		for n := p; n <= mod; n += p {
			if least[n] == 0 {
				least[n] = p
			}
		}
	}
	return least
}

// Every k that serves is a multiple of the least: so one that serves is it, if none serves that has one prime less.
func TestC1OrderAllModuli(t *testing.T) {
	least := leastPrimes()
	for m := int64(1); m <= mod && !t.Failed(); m++ {
		for _, a := range []int64{2, -3, m + 10} {
			if gcd(a, m) != 1 {
				checkOrder(t, a, m, 0, api.ErrNone)
				continue
			}
			k, e := power.Order(a, m)
			if e != api.OK || k < 1 || k > mod {
				t.Fatalf("Order(%d, %d) = %d, %d; want a number, OK", a, m, k, e)
			}
			checkPow(t, a, k, m, left(1, m), api.OK)
			for rest := k; rest > 1; rest /= least[rest] {
				if x, _ := power.Pow(a, k/least[rest], m); x == left(1, m) {
					t.Errorf("Order(%d, %d) = %d, but %d serves, too", a, m, k, k/least[rest])
				}
			}
		}
	}
}

func TestC1OrderTooFar(t *testing.T) {
	for _, a := range farNumbers {
		for _, m := range slices.Concat(farModuli, moduli) {
			checkOrder(t, a, m, 0, api.ErrRange)
		}
	}
	for _, m := range farModuli {
		for _, a := range edges {
			checkOrder(t, a, m, 0, api.ErrRange)
		}
	}
}

func TestC1LambdaSmallNumbers(t *testing.T) {
	for m := int64(1); m <= 600; m++ {
		checkLambda(t, m, countedLambda(m), api.OK)
	}
}

func TestC1LambdaNamed(t *testing.T) {
	for _, c := range []struct{ m, want int64 }{
		{1, 1},
		{2, 1},
		{3, 2},
		{4, 2},
		{8, 2},
		{16, 4},
		{24, 2},
		{561, 80},
		{65520, 12},
		{531441, 354294},
		{720720, 60},
		{1021 * 1021, 1020 * 1021},
		{1019 * 1021, 1018 * 510},
		{1048573, 1048572},
		{mod - 1, 120},
		{mod, mod / 4},
	} {
		checkLambda(t, c.m, c.want, api.OK)
	}
}

// Lambda serves every a that has an Order, and no less does: the counted Orders of some a have it as the least number that they all divide.
func TestC1LambdaEdges(t *testing.T) {
	for _, m := range moduli {
		k, e := power.Lambda(m)
		if e != api.OK || k < 1 || k > mod {
			t.Fatalf("Lambda(%d) = %d, %d; want a number, OK", m, k, e)
		}
		for a := range m {
			if gcd(a, m) == 1 {
				checkPow(t, a, k, m, left(1, m), api.OK)
			}
		}
		needed := int64(1)
		for a := int64(1); a <= m && a <= 60; a++ {
			if order, e := countedOrder(a, m); e == api.OK {
				needed = lcm(needed, order)
			}
		}
		if needed != k {
			t.Errorf("Lambda(%d) = %d; want %d", m, k, needed)
		}
	}
}

// wantLambda puts Lambda together from the primes of m: p - 1 of each, times p for each time more that it divides m; by 8 and on half of that of 2.
func wantLambda(m int64, least []int64) int64 {
	want := int64(1)
	for m > 1 {
		p, part := least[m], least[m]-1
		for m /= p; m%p == 0; m /= p {
			part *= p
		}
		if p == 2 && part > 2 {
			part /= 2
		}
		want = lcm(want, part)
	}
	return want
}

func TestC1LambdaAllModuli(t *testing.T) {
	least := leastPrimes()
	for m := int64(1); m <= mod && !t.Failed(); m++ {
		checkLambda(t, m, wantLambda(m, least), api.OK)
	}
}

func TestC1LambdaTooFar(t *testing.T) {
	for _, m := range farModuli {
		checkLambda(t, m, 0, api.ErrRange)
	}
}
