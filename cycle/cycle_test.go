package cycle_test

import (
	"math"
	"math/rand"
	"slices"
	"testing"

	"lockwright/api"
	"lockwright/cycle"
)

const (
	most = int64(api.MaxNum)
	mod  = int64(api.MaxMod)
	// lastPrime is the greatest prime up to MaxMod.
	lastPrime = int64(1048573)
)

// farNumbers: what no call takes as c or as x, just beyond the limits and as far out as can be.
var farNumbers = []int64{most + 1, -most - 1, 1<<32 + 1, -1<<32 + 1, 1 << 62, math.MaxInt64, math.MinInt64, math.MinInt64 + 1}

// farModuli: what no call takes as n.
var farModuli = []int64{0, -1, -2, -5, -lastPrime, -mod, mod + 1, mod + 2, most - 1, most, most + 1, 1<<32 + 1, 1<<32 + 5, math.MaxInt64, math.MinInt64, math.MinInt64 + 1}

// edges: what each call takes as c and as x, at the limits and around 0.
var edges = []int64{-most, -most + 1, -mod - 1, -mod, -2, -1, 0, 1, 2, 3, mod - 1, mod, mod + 1, most - 1, most}

// longWays: c, n and x of long ways: the first one goes round through half of all numbers, the second one goes far until its round begins, the others go by powers of primes.
var longWays = [][3]int64{{0, 1046807, 2}, {-1, 1046833, 2}, {4, 531441, 0}, {2, 390625, 0}, {15, 1030301, 0}, {22, 923521, 0}, {29, 1021 * 1021, 0}, {1, mod, 0}, {0, mod, 3}}

// left answers what is left of n, divided by m, from 0 on.
func left(n, m int64) int64 { return (n%m + m) % m }

// numbers writes down the numbers behind 0, 1, 2 .. steps, count of them.
func numbers(c, n, x, count int64) []int64 {
	list := []int64{left(x, n)}
	for i := int64(1); i < count; i++ {
		y := list[i-1]
		list = append(list, left(y*y+c, n))
	}
	return list
}

// wantCycle notes behind how many steps each number stands first, until one comes that stands there already.
func wantCycle(c, n, x int64) (int64, int64) {
	at := map[int64]int64{}
	y := left(x, n)
	for i := int64(0); ; i++ {
		if first, known := at[y]; known {
			return first, i - first
		}
		at[y] = i
		y = left(y*y+c, n)
	}
}

// triedDivisor tries all numbers from n down; n is from 1 on.
func triedDivisor(n, difference int64) int64 {
	d := n
	for n%d != 0 || difference%d != 0 {
		d--
	}
	return d
}

// dividedDivisor divides again and again; n is from 1 on.
func dividedDivisor(n, difference int64) int64 {
	rest := left(difference, n)
	for rest != 0 {
		n, rest = rest, n%rest
	}
	return n
}

// wantSplit goes through the numbers that are written down; they are enough for it, and n is above 1.
func wantSplit(n int64, list []int64, divisor func(n, difference int64) int64) (int64, int64) {
	for i := int64(1); ; i++ {
		if d := divisor(n, list[i]-list[2*i]); d > 1 {
			return i, d
		}
	}
}

func checkCycle(t *testing.T, c, n, x, ahead, round int64, wrong api.Errno) {
	t.Helper()
	if a, r, e := cycle.Cycle(c, n, x); a != ahead || r != round || e != wrong {
		t.Errorf("Cycle(%d, %d, %d) = %d, %d, %d; want %d, %d, %d", c, n, x, a, r, e, ahead, round, wrong)
	}
}

func checkSplit(t *testing.T, c, n, x, i, d int64, wrong api.Errno) {
	t.Helper()
	if a, b, e := cycle.Split(c, n, x); a != i || b != d || e != wrong {
		t.Errorf("Split(%d, %d, %d) = %d, %d, %d; want %d, %d, %d", c, n, x, a, b, e, i, d, wrong)
	}
}

// checkCounted holds Cycle against what is counted out.
func checkCounted(t *testing.T, c, n, x int64) {
	t.Helper()
	ahead, round := wantCycle(c, n, x)
	checkCycle(t, c, n, x, ahead, round, api.OK)
}

// checkWritten holds Split against numbers that are written down: where all of the way, and twice the way, is there, i is, too.
func checkWritten(t *testing.T, c, n, x int64) {
	t.Helper()
	ahead, round := wantCycle(c, n, x)
	list := numbers(c, n, x, 2*(ahead+round)+1)
	i, d := wantSplit(n, list, dividedDivisor)
	checkSplit(t, c, n, x, i, d, api.OK)
}

func TestI1Named(t *testing.T) {
	for _, c := range []struct{ c, n, x, ahead, round int64 }{
		{1, 5, 0, 0, 3},  // 0 1 2 0
		{1, 5, 3, 1, 3},  // 3 0 1 2 0: 3 itself does not come again
		{6, 5, 10, 0, 3}, // as 1 and 0
		{-4, 5, -5, 0, 3},
		{1, 5, 4, 1, 3}, // 4 2 0 1 2
		{0, 7, 3, 1, 2}, // 3 2 4 2
		{0, 7, 2, 0, 2},
		{0, 7, 6, 1, 1}, // 6 1 1
		{0, 7, 1, 0, 1},
		{0, 7, 0, 0, 1},
		{0, 16, 2, 2, 1}, // 2 4 0 0
		{0, mod, 2, 5, 1},
		{0, 65537, 3, 16, 1}, // 3, 9 .. -1, 1
		{-2, 1000003, 2, 0, 1},
		{-2, 1000003, 0, 2, 1}, // 0 -2 2 2
		{-1, lastPrime, 0, 0, 2},
		{-1, lastPrime, 1, 1, 2}, // 1 0 -1 0
		{0, 1046807, 2, 0, 523402},
		{0, 1046807, -2, 1, 523402}, // 2 has a root by 1046807, -2 has none, and both have one square
		{0, 1, 0, 0, 1},
		{-most, 1, most, 0, 1},
		{1, 2, 0, 0, 2},
		{0, 2, 1, 0, 1},
	} {
		checkCycle(t, c.c, c.n, c.x, c.ahead, c.round, api.OK)
	}
}

func TestI1SmallModuli(t *testing.T) {
	for n := int64(1); n <= 45; n++ {
		for c := -n; c <= n; c++ {
			for x := -n - 1; x <= 2*n; x++ {
				checkCounted(t, c, n, x)
			}
		}
	}
}

// The document's words, taken one by one: a number comes again if it stands among those behind it.
func TestI1WrittenDown(t *testing.T) {
	for n := int64(1); n <= 20; n++ {
		for c := range n {
			for x := range n {
				list := numbers(c, n, x, 2*n+1)
				ahead := 0
				for !slices.Contains(list[ahead+1:], list[ahead]) {
					ahead++
				}
				round := 1 + slices.Index(list[ahead+1:], list[ahead])
				checkCycle(t, c, n, x, int64(ahead), int64(round), api.OK)
			}
		}
	}
}

func TestI1LongWays(t *testing.T) {
	for _, w := range longWays {
		checkCounted(t, w[0], w[1], w[2])
		checkCounted(t, w[0]-w[1], w[1], w[2]+w[1])
	}
}

func TestI1Drawn(t *testing.T) {
	draw := rand.New(rand.NewSource(9))
	for range 20000 {
		n := 1 + draw.Int63n(mod)
		checkCounted(t, draw.Int63n(2*most+1)-most, n, draw.Int63n(2*most+1)-most)
	}
	// Below the greatest n squares are greatest, and by them c is left as it is.
	for n := mod - 50; n <= mod; n++ {
		checkCounted(t, n-1, n, n-1)
		checkCounted(t, n-1, n, n/2)
		checkCounted(t, -n, n, 3)
	}
}

func TestI1Edges(t *testing.T) {
	for _, n := range []int64{1, 2, 3, 4, 5, 97, 1024, 65537} {
		for _, c := range slices.Concat(edges, []int64{n - 1, n, n + 1, -n, most / n * n, -most / n * n}) {
			for _, x := range slices.Concat(edges, []int64{n - 1, n, n + 1, -n, most / n * n, -most / n * n}) {
				checkCounted(t, c, n, x)
			}
		}
	}
	for _, n := range []int64{lastPrime, mod - 1, mod} {
		for _, c := range edges {
			checkCounted(t, c, n, most)
			checkCounted(t, most, n, c)
		}
	}
}

// ErrRange is named ahead of ErrNone: so n 1 is among the moduli that are near.
func TestI1TooFar(t *testing.T) {
	for _, far := range farNumbers {
		for _, near := range edges {
			for _, n := range slices.Concat([]int64{1, 2, 5, 8051, lastPrime, mod}, farModuli) {
				for _, c := range [][2]int64{{far, near}, {near, far}, {far, far}} {
					checkCycle(t, c[0], n, c[1], 0, 0, api.ErrRange)
					checkSplit(t, c[0], n, c[1], 0, 0, api.ErrRange)
				}
			}
		}
	}
	for _, n := range farModuli {
		for _, c := range edges {
			for _, x := range edges {
				checkCycle(t, c, n, x, 0, 0, api.ErrRange)
				checkSplit(t, c, n, x, 0, 0, api.ErrRange)
			}
		}
	}
}

func TestI2Named(t *testing.T) {
	for _, c := range []struct{ c, n, x, i, d int64 }{
		{1, 8051, 2, 3, 97}, // behind 3 steps 677, behind 6 871
		{1, 5, 0, 3, 5},     // the difference is 0, and n divides it
		{1, 5, 3, 3, 5},
		{0, 7, 0, 1, 7}, // not behind 0 steps
		{0, 7, 3, 2, 7}, // 3 2 4 2 4
		{0, 6, 5, 1, 6},
		{1, 2, 0, 2, 2}, // 0 1 0 1 0
		{0, 2, 1, 1, 2},
		{1, 4, 0, 2, 4}, // 0 1 2 1 2
		{1, 15, 0, 2, 3},
		{1, 6, 0, 2, 6}, // 0 1 2 5 2: 2 and 3 at once
		{0, 65537, 3, 16, 65537},
		{-1, lastPrime, 0, 2, lastPrime},
		{0, 1046807, 2, 523402, 1046807},
	} {
		checkSplit(t, c.c, c.n, c.x, c.i, c.d, api.OK)
	}
}

func TestI2None(t *testing.T) {
	for _, c := range edges {
		for _, x := range edges {
			checkSplit(t, c, 1, x, 0, 0, api.ErrNone)
		}
	}
}

// All numbers from n down are tried as divisors, so that nothing but the document's words is trusted.
func TestI2SmallModuli(t *testing.T) {
	for n := int64(2); n <= 36; n++ {
		for c := -n; c <= n; c++ {
			for x := -n; x <= n+1; x++ {
				i, d := wantSplit(n, numbers(c, n, x, 2*n+1), triedDivisor)
				checkSplit(t, c, n, x, i, d, api.OK)
			}
		}
	}
}

func TestI2LongWays(t *testing.T) {
	for _, w := range longWays {
		checkWritten(t, w[0], w[1], w[2])
		checkWritten(t, w[0]-w[1], w[1], w[2]+w[1])
	}
}

func TestI2Drawn(t *testing.T) {
	draw := rand.New(rand.NewSource(10))
	for range 20000 {
		n := 2 + draw.Int63n(mod-1)
		checkWritten(t, draw.Int63n(2*most+1)-most, n, draw.Int63n(2*most+1)-most)
	}
	for n := mod - 50; n <= mod; n++ {
		checkWritten(t, n-1, n, n-1)
		checkWritten(t, n-1, n, n/2)
		checkWritten(t, -n, n, 3)
	}
}

// Products of two primes, each near the root of MaxMod: a divisor may be one of the two, or, where both are caught at once, n.
func TestI2TwoPrimes(t *testing.T) {
	for _, n := range []int64{1009 * 1013, 1013 * 1021, 1019 * 1021, 1021 * 1021, 997 * 1033, 2 * 524287, 3 * 349519} {
		for c := int64(-12); c <= 12; c++ {
			for x := range int64(6) {
				checkWritten(t, c, n, x)
			}
		}
	}
}

func TestI2Edges(t *testing.T) {
	for _, n := range []int64{2, 3, 4, 5, 97, 1024, 65537} {
		for _, c := range slices.Concat(edges, []int64{n - 1, n, n + 1, -n, most / n * n, -most / n * n}) {
			for _, x := range slices.Concat(edges, []int64{n - 1, n, n + 1, -n, most / n * n, -most / n * n}) {
				checkWritten(t, c, n, x)
			}
		}
	}
	for _, n := range []int64{lastPrime, mod - 1, mod} {
		for _, c := range edges {
			checkWritten(t, c, n, most)
			checkWritten(t, most, n, c)
		}
	}
}

func TestI2AgainAndAgain(t *testing.T) {
	for range 200 {
		checkCycle(t, 1, 5, 0, 0, 3, api.OK)
		checkSplit(t, 1, 8051, 2, 3, 97, api.OK)
		checkSplit(t, 1, 1, 2, 0, 0, api.ErrNone)
	}
}
