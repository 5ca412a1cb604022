package euclid_test

import (
	"math"
	"slices"
	"testing"

	"lockwright/api"
	"lockwright/euclid"
)

const (
	most  = int64(api.MaxNum)
	small = int64(30)
)

// tooFar: numbers that no call takes, just beyond the limits and as far out as can be.
var tooFar = []int64{most + 1, -most - 1, math.MaxInt64, math.MinInt64, math.MinInt64 + 1}

// edges: numbers that every call takes, at the limits and around 0.
var edges = []int64{-most, -most + 1, -most / 2, -6, -2, -1, 0, 1, 2, 3, 6, 1 << 20, 46368, 1836311903, 1134903170, most / 2, most - 1, most}

func divides(d, n int64) bool { return n%d == 0 }

// countedGcd finds what divides both by trying every number, as A1 says it.
func countedGcd(a, b int64) int64 {
	if a == 0 && b == 0 {
		return 0
	}
	for d := small; d > 1; d-- {
		if divides(d, a) && divides(d, b) {
			return d
		}
	}
	return 1
}

// countedLcm finds what both divide by trying every number, as A1 says it.
func countedLcm(a, b int64) int64 {
	if a == 0 || b == 0 {
		return 0
	}
	n := int64(1)
	for !divides(a, n) || !divides(b, n) {
		n++
	}
	return n
}

func checkGcd(t *testing.T, a, b, want int64) {
	t.Helper()
	if g, e := euclid.Gcd(a, b); g != want || e != api.OK {
		t.Errorf("Gcd(%d, %d) = %d, %d; want %d, OK", a, b, g, e, want)
	}
}

func checkLcm(t *testing.T, a, b, want int64) {
	t.Helper()
	if l, e := euclid.Lcm(a, b); l != want || e != api.OK {
		t.Errorf("Lcm(%d, %d) = %d, %d; want %d, OK", a, b, l, e, want)
	}
}

func TestA1SmallNumbers(t *testing.T) {
	for a := -small; a <= small; a++ {
		for b := -small; b <= small; b++ {
			checkGcd(t, a, b, countedGcd(a, b))
			checkLcm(t, a, b, countedLcm(a, b))
		}
	}
}

func TestA1GcdEdges(t *testing.T) {
	for _, c := range []struct{ a, b, want int64 }{
		{0, 0, 0},
		{0, most, most},
		{-most, 0, most},
		{most, most, most},
		{-most, most, most},
		{most, most - 1, 1},
		{-most, 3 << 20, 1 << 20},
		{1836311903, 1134903170, 1},
		{2 * 918155951, 918155951, 918155951},
	} {
		checkGcd(t, c.a, c.b, c.want)
		checkGcd(t, c.b, c.a, c.want)
	}
}

func TestA1LcmEdges(t *testing.T) {
	for _, c := range []struct{ a, b, want int64 }{
		{0, 0, 0},
		{0, -most, 0},
		{most, 1, most},
		{-most, most, most},
		{-most, -1, most},
		{most, most - 1, most * (most - 1)},
		{-most, most - 1, most * (most - 1)},
		{1836311903, -1134903170, 1836311903 * 1134903170},
	} {
		checkLcm(t, c.a, c.b, c.want)
		checkLcm(t, c.b, c.a, c.want)
	}
}

func TestA1TooFar(t *testing.T) {
	for _, far := range tooFar {
		for _, other := range slices.Concat(tooFar, edges) {
			checkRefused(t, far, other)
			checkRefused(t, other, far)
		}
	}
}

func checkRefused(t *testing.T, a, b int64) {
	t.Helper()
	if g, e := euclid.Gcd(a, b); g != 0 || e != api.ErrRange {
		t.Errorf("Gcd(%d, %d) = %d, %d; want 0, ErrRange", a, b, g, e)
	}
	if l, e := euclid.Lcm(a, b); l != 0 || e != api.ErrRange {
		t.Errorf("Lcm(%d, %d) = %d, %d; want 0, ErrRange", a, b, l, e)
	}
	if g, x, y, e := euclid.Bezout(a, b); g != 0 || x != 0 || y != 0 || e != api.ErrRange {
		t.Errorf("Bezout(%d, %d) = %d, %d, %d, %d; want 0, 0, 0, ErrRange", a, b, g, x, y, e)
	}
}

func checkBezout(t *testing.T, a, b, g, x, y int64) {
	t.Helper()
	if g2, x2, y2, e := euclid.Bezout(a, b); g2 != g || x2 != x || y2 != y || e != api.OK {
		t.Errorf("Bezout(%d, %d) = %d, %d, %d, %d; want %d, %d, %d, OK", a, b, g2, x2, y2, e, g, x, y)
	}
}

func TestA2SmallNumbers(t *testing.T) {
	for a := -small; a <= small; a++ {
		for b := -small; b <= small; b++ {
			if b == 0 {
				continue
			}
			g, x := countedGcd(a, b), int64(0)
			for !divides(b, g-x*a) {
				x++
			}
			checkBezout(t, a, b, g, x, (g-x*a)/b)
		}
	}
}

func TestA2SecondIsZero(t *testing.T) {
	checkBezout(t, 0, 0, 0, 0, 0)
	for _, a := range []int64{1, 2, 5, most - 1, most} {
		checkBezout(t, a, 0, a, 1, 0)
		checkBezout(t, -a, 0, a, -1, 0)
	}
}

func TestA2Named(t *testing.T) {
	checkBezout(t, 6, 4, 2, 1, -1)
	checkBezout(t, 0, 5, 5, 0, 1)
	checkBezout(t, 0, -5, 5, 0, -1)
	checkBezout(t, -6, 3, 3, 0, 1)
	checkBezout(t, most, -most, most, 0, -1)
	checkBezout(t, most, most-1, 1, 1, -1)
	checkBezout(t, most-1, most, 1, most-1, 2-most)
	checkBezout(t, -most, most-1, 1, most-2, most-1)
}

func TestA2Edges(t *testing.T) {
	for _, a := range edges {
		for _, b := range edges {
			if b != 0 {
				checkLeastBezout(t, a, b)
			}
		}
	}
}

// checkLeastBezout asks whether x is the least: two that serve lie a multiple of |b| / g apart, so just one of them is from 0 on and below that.
func checkLeastBezout(t *testing.T, a, b int64) {
	t.Helper()
	g, x, y, e := euclid.Bezout(a, b)
	if e != api.OK {
		t.Errorf("Bezout(%d, %d) tells %d; want OK", a, b, e)
		return
	}
	if want, _ := euclid.Gcd(a, b); g != want {
		t.Errorf("Bezout(%d, %d) has %d as what divides both; Gcd has %d", a, b, g, want)
	}
	if x*a+y*b != g {
		t.Errorf("Bezout(%d, %d) = %d, %d, %d, whose sum is %d", a, b, g, x, y, x*a+y*b)
	}
	apart := max(b/g, -b/g)
	if x < 0 || x >= apart {
		t.Errorf("Bezout(%d, %d) has %d as x; want one from 0 to %d", a, b, x, apart-1)
	}
}

func checkInverse(t *testing.T, a, m, want int64, wrong api.Errno) {
	t.Helper()
	if i, e := euclid.Inverse(a, m); i != want || e != wrong {
		t.Errorf("Inverse(%d, %d) = %d, %d; want %d, %d", a, m, i, e, want, wrong)
	}
}

// countedInverse tries every number from 0 to m - 1, as A3 says it.
func countedInverse(a, m int64) (int64, api.Errno) {
	for i := range m {
		if divides(m, a*i-1) {
			return i, api.OK
		}
	}
	return 0, api.ErrNone
}

func TestA3SmallNumbers(t *testing.T) {
	for m := int64(1); m <= small; m++ {
		for a := -2 * small; a <= 2*small; a++ {
			want, wrong := countedInverse(a, m)
			checkInverse(t, a, m, want, wrong)
		}
	}
}

func TestA3Named(t *testing.T) {
	checkInverse(t, 3, 7, 5, api.OK)
	checkInverse(t, -1, 5, 4, api.OK)
	checkInverse(t, 2, 4, 0, api.ErrNone)
	checkInverse(t, 0, 2, 0, api.ErrNone)
	for _, a := range edges {
		checkInverse(t, a, 1, 0, api.OK)
	}
}

func TestA3Edges(t *testing.T) {
	for _, m := range []int64{2, 3, 1009, api.MaxMod - 3, api.MaxMod - 1, api.MaxMod} {
		for _, a := range edges {
			want, wrong := countedInverse(a, m)
			checkInverse(t, a, m, want, wrong)
		}
	}
}

func TestA3TooFar(t *testing.T) {
	for _, a := range tooFar {
		for _, m := range []int64{1, 2, 7, api.MaxMod, 0, api.MaxMod + 1, math.MinInt64} {
			checkInverse(t, a, m, 0, api.ErrRange)
		}
	}
	for _, m := range []int64{0, -1, -7, api.MaxMod + 1, api.MaxMod + 2, most, math.MaxInt64, math.MinInt64} {
		for _, a := range edges {
			checkInverse(t, a, m, 0, api.ErrRange)
		}
	}
}
