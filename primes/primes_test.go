package primes_test

import (
	"math"
	"slices"
	"testing"

	"lockwright/api"
	"lockwright/primes"
)

const (
	most  = int64(api.MaxMod)
	small = int64(400)
)

// tooFar: numbers that no call takes, just beyond the limits and as far out as can be.
var tooFar = []int64{0, -1, -2, -7, -12, -most, most + 1, most + 2, 2 * most, 1<<32 + 12, math.MaxInt64, math.MinInt64, math.MinInt64 + 1}

// countedDivisors finds what divides n by trying every number, as B2 says it.
func countedDivisors(n int64) []int64 {
	var list []int64
	for d := int64(1); d <= n; d++ {
		if n%d == 0 {
			list = append(list, d)
		}
	}
	return list
}

// countedIs asks whether n is a prime by what divides it, as B1 says it.
func countedIs(n int64) bool { return len(countedDivisors(n)) == 2 }

// countedFactor takes the primes among what divides n, and divides by each as often as it goes, as B1 says it.
func countedFactor(n int64) []api.Power {
	var list []api.Power
	for _, p := range countedDivisors(n) {
		if !countedIs(p) {
			continue
		}
		k := 0
		for rest := n; rest%p == 0; rest /= p {
			k++
		}
		list = append(list, api.Power{P: p, K: k})
	}
	return list
}

// countedPhi asks every number from 1 to n for a divisor that it has in common with n, as B2 says it.
func countedPhi(n int64) int64 {
	count := int64(0)
	for a := int64(1); a <= n; a++ {
		common := slices.ContainsFunc(countedDivisors(n), func(d int64) bool { return d > 1 && a%d == 0 })
		if !common {
			count++
		}
	}
	return count
}

// countedMobius asks for primes that divide n twice, and counts the others, as B2 says it.
func countedMobius(n int64) int {
	list := countedFactor(n)
	if slices.ContainsFunc(list, func(q api.Power) bool { return q.K >= 2 }) {
		return 0
	}
	if len(list)%2 == 1 {
		return -1
	}
	return 1
}

func checkIs(t *testing.T, n int64, want bool) {
	t.Helper()
	if is, e := primes.Is(n); is != want || e != api.OK {
		t.Errorf("Is(%d) = %t, %d; want %t, OK", n, is, e, want)
	}
}

func checkFactor(t *testing.T, n int64, want []api.Power) {
	t.Helper()
	if list, e := primes.Factor(n); !slices.Equal(list, want) || e != api.OK {
		t.Errorf("Factor(%d) = %v, %d; want %v, OK", n, list, e, want)
	}
}

func checkPhi(t *testing.T, n, want int64) {
	t.Helper()
	if phi, e := primes.Phi(n); phi != want || e != api.OK {
		t.Errorf("Phi(%d) = %d, %d; want %d, OK", n, phi, e, want)
	}
}

func checkMobius(t *testing.T, n int64, want int) {
	t.Helper()
	if m, e := primes.Mobius(n); m != want || e != api.OK {
		t.Errorf("Mobius(%d) = %d, %d; want %d, OK", n, m, e, want)
	}
}

func checkDivisors(t *testing.T, n int64, want []int64) {
	t.Helper()
	if list, e := primes.Divisors(n); !slices.Equal(list, want) || e != api.OK {
		t.Errorf("Divisors(%d) = %v, %d; want %v, OK", n, list, e, want)
	}
}

func TestB1SmallNumbers(t *testing.T) {
	for n := int64(1); n <= small; n++ {
		checkIs(t, n, countedIs(n))
		checkFactor(t, n, countedFactor(n))
	}
}

func TestB1IsEdges(t *testing.T) {
	for _, n := range []int64{2, 3, 997, 1009, 1013, 1019, 1021, 524287, 1048573} {
		checkIs(t, n, true)
	}
	// 1, squares of primes and products of two that lie near each other, and what merely seems to be a prime.
	for _, n := range []int64{1, 4, 9, 1021 * 1021, 1019 * 1021, 341, 561, 2047, 1048575, most - 2, most} {
		checkIs(t, n, false)
	}
}

func TestB1FactorEdges(t *testing.T) {
	for _, c := range []struct {
		n    int64
		want []api.Power
	}{
		{1, nil},
		{2, []api.Power{{P: 2, K: 1}}},
		{12, []api.Power{{P: 2, K: 2}, {P: 3, K: 1}}},
		{most, []api.Power{{P: 2, K: 20}}},
		{most - 1, []api.Power{{P: 3, K: 1}, {P: 5, K: 2}, {P: 11, K: 1}, {P: 31, K: 1}, {P: 41, K: 1}}},
		{1048573, []api.Power{{P: 1048573, K: 1}}},
		{531441, []api.Power{{P: 3, K: 12}}},
		{1021 * 1021, []api.Power{{P: 1021, K: 2}}},
		{1019 * 1021, []api.Power{{P: 1019, K: 1}, {P: 1021, K: 1}}},
		{2 * 524287, []api.Power{{P: 2, K: 1}, {P: 524287, K: 1}}},
		{510510, []api.Power{{P: 2, K: 1}, {P: 3, K: 1}, {P: 5, K: 1}, {P: 7, K: 1}, {P: 11, K: 1}, {P: 13, K: 1}, {P: 17, K: 1}}},
		{720720, []api.Power{{P: 2, K: 4}, {P: 3, K: 2}, {P: 5, K: 1}, {P: 7, K: 1}, {P: 11, K: 1}, {P: 13, K: 1}}},
	} {
		checkFactor(t, c.n, c.want)
	}
}

// leastPrimes has for each number up to MaxMod the least prime that divides it, by crossing out.
func leastPrimes() []int64 {
	least := make([]int64, most+1)
	for p := int64(2); p <= most; p++ {
		if least[p] != 0 {
			continue
		}
		for n := p; n <= most; n += p {
			if least[n] == 0 {
				least[n] = p
			}
		}
	}
	return least
}

func TestB1AllNumbers(t *testing.T) {
	least := leastPrimes()
	for n := int64(1); n <= most && !t.Failed(); n++ {
		checkIs(t, n, n > 1 && least[n] == n)
		var want []api.Power
		for rest := n; rest > 1; rest /= least[rest] {
			if i := len(want) - 1; i >= 0 && want[i].P == least[rest] {
				want[i].K++
			} else {
				want = append(want, api.Power{P: least[rest], K: 1})
			}
		}
		checkFactor(t, n, want)
	}
}

func TestB1TooFar(t *testing.T) {
	for _, n := range tooFar {
		if is, e := primes.Is(n); is || e != api.ErrRange {
			t.Errorf("Is(%d) = %t, %d; want false, ErrRange", n, is, e)
		}
		if list, e := primes.Factor(n); len(list) != 0 || e != api.ErrRange {
			t.Errorf("Factor(%d) = %v, %d; want nothing, ErrRange", n, list, e)
		}
		if phi, e := primes.Phi(n); phi != 0 || e != api.ErrRange {
			t.Errorf("Phi(%d) = %d, %d; want 0, ErrRange", n, phi, e)
		}
		if m, e := primes.Mobius(n); m != 0 || e != api.ErrRange {
			t.Errorf("Mobius(%d) = %d, %d; want 0, ErrRange", n, m, e)
		}
		if list, e := primes.Divisors(n); len(list) != 0 || e != api.ErrRange {
			t.Errorf("Divisors(%d) = %v, %d; want nothing, ErrRange", n, list, e)
		}
	}
}

// What was answered belongs to who asked: turning it leaves the next answer as it was.
func TestB1FactorIsNew(t *testing.T) {
	list, _ := primes.Factor(12)
	clear(list[:cap(list)])
	checkFactor(t, 12, []api.Power{{P: 2, K: 2}, {P: 3, K: 1}})
}

func TestB2SmallNumbers(t *testing.T) {
	for n := int64(1); n <= small; n++ {
		checkPhi(t, n, countedPhi(n))
		checkMobius(t, n, countedMobius(n))
		checkDivisors(t, n, countedDivisors(n))
	}
}

func TestB2PhiEdges(t *testing.T) {
	for _, c := range []struct{ n, want int64 }{
		{1, 1},
		{2, 1},
		{12, 4},
		{most, most / 2},
		{most - 1, 2 * 20 * 10 * 30 * 40},
		{1048573, 1048572},
		{1021 * 1021, 1020 * 1021},
		{1019 * 1021, 1018 * 1020},
		{510510, 1 * 2 * 4 * 6 * 10 * 12 * 16},
	} {
		checkPhi(t, c.n, c.want)
	}
}

func TestB2MobiusEdges(t *testing.T) {
	for _, c := range []struct {
		n    int64
		want int
	}{
		{1, 1},
		{2, -1},
		{6, 1},
		{30, -1},
		{4, 0},
		{8, 0},
		{12, 0},
		{18, 0},
		{most, 0},
		{most - 1, 0},
		{1048573, -1},
		{1021 * 1021, 0},
		{1019 * 1021, 1},
		{2 * 1021 * 509, -1},
		{2 * 509 * 509, 0},
		{30030, 1},
		{510510, -1},
	} {
		checkMobius(t, c.n, c.want)
	}
}

func TestB2DivisorsEdges(t *testing.T) {
	var halves []int64
	for d := int64(1); d <= most; d *= 2 {
		halves = append(halves, d)
	}
	checkDivisors(t, most, halves)
	checkDivisors(t, 1, []int64{1})
	checkDivisors(t, 12, []int64{1, 2, 3, 4, 6, 12})
	checkDivisors(t, 1048573, []int64{1, 1048573})
	checkDivisors(t, 1021*1021, []int64{1, 1021, 1021 * 1021})
	checkDivisors(t, 1019*1021, []int64{1, 1019, 1021, 1019 * 1021})
	for _, n := range []int64{most - 1, 510510, 531441, 720720} {
		checkDivisors(t, n, countedDivisors(n))
	}
}

// Of all d that divide n, the Phi sum up to n, and the Mobius to 0, or to 1, if n is 1: that alone settles both, from 1 on.
func TestB2AllSums(t *testing.T) {
	phis, signs := make([]int64, most+1), make([]int, most+1)
	for d := int64(1); d <= most; d++ {
		phi, _ := primes.Phi(d)
		sign, _ := primes.Mobius(d)
		for n := d; n <= most; n += d {
			phis[n] += phi
			signs[n] += sign
		}
	}
	want := 1
	for n := int64(1); n <= most && !t.Failed(); n++ {
		if phis[n] != n {
			t.Errorf("the Phi of what divides %d sum up to %d", n, phis[n])
		}
		if signs[n] != want {
			t.Errorf("the Mobius of what divides %d sum up to %d; want %d", n, signs[n], want)
		}
		want = 0
	}
}

// Rising, all of them dividing n, and as many as there are: these are the divisors.
func TestB2AllDivisors(t *testing.T) {
	counts := make([]int, most+1)
	for d := int64(1); d <= most; d++ {
		for n := d; n <= most; n += d {
			counts[n]++
		}
	}
	for n := int64(1); n <= most && !t.Failed(); n++ {
		list, e := primes.Divisors(n)
		if e != api.OK || len(list) != counts[n] {
			t.Errorf("Divisors(%d) = %v, %d; want %d of them, OK", n, list, e, counts[n])
		}
		for i, d := range list {
			if d < 1 || n%d != 0 || i > 0 && d <= list[i-1] {
				t.Errorf("Divisors(%d) = %v: wrong at place %d", n, list, i)
			}
		}
	}
}

func TestB2DivisorsIsNew(t *testing.T) {
	list, _ := primes.Divisors(12)
	clear(list[:cap(list)])
	checkDivisors(t, 12, []int64{1, 2, 3, 4, 6, 12})
}
