package walsh_test

import (
	"math"
	"math/rand"
	"slices"
	"testing"

	"lockwright/api"
	"lockwright/walsh"
)

// farVars: of so many variables there are no functions here.
var farVars = []int{-1, -2, -5, -6, -27, -31, -32, -33, -59, -63, -64, -65, 6, 7, 8, 16, 31, 32, 33, 63, 64, 65, 1 << 16, math.MaxInt32, math.MinInt32, 1 << 32, 1<<32 + 2, math.MaxInt, math.MinInt, math.MinInt + 2}

// farOrders: no k is so far out, of any number of variables.
var farOrders = []int{-1, -2, -5, -31, -32, -64, 6, 7, 31, 32, 64, math.MaxInt32, math.MinInt32, 1 << 32, 1<<32 + 1, math.MaxInt, math.MinInt, math.MinInt + 1}

// full answers the function of n variables that is 1 for each number.
func full(n int) uint32 { return uint32(uint64(1)<<(1<<n) - 1) }

// made answers the function of n variables that is 1 where is tells so.
func made(n int, is func(x int) bool) uint32 {
	f := uint32(0)
	for x := range 1 << n {
		if is(x) {
			f += 1 << x
		}
	}
	return f
}

// numberOfBits counts them one by one.
func numberOfBits(x int) int {
	many := 0
	for ; x > 0; x /= 2 {
		many += x % 2
	}
	return many
}

func isOdd(x int) bool { return numberOfBits(x)%2 == 1 }

// tells: the bit of f, looked for among the powers of 2.
func tells(f uint32, x int) int {
	return int(uint64(f) / (uint64(1) << x) % 2)
}

// wantWaves follows O1 word by word.
func wantWaves(n int, f uint32) []int {
	list := []int{}
	for u := range 1 << n {
		together, others := 0, 0
		for x := range 1 << n {
			if tells(f, x) == numberOfBits(u&x)%2 {
				together++
			} else {
				others++
			}
		}
		list = append(list, together-others)
	}
	return list
}

// isAnf tells whether f's bit of each x is odd just if the number of those u is, which O2 names.
func isAnf(n int, f, g uint32) bool {
	for x := range 1 << n {
		many := 0
		for u := range 1 << n {
			if tells(g, u) == 1 && u&x == u {
				many++
			}
		}
		if many%2 != tells(f, x) {
			return false
		}
	}
	return uint64(g) < uint64(1)<<(1<<n)
}

// wantDegree goes by an Anf that is known.
func wantDegree(n int, g uint32) int {
	most := -1
	for u := range 1 << n {
		if tells(g, u) == 1 && numberOfBits(u) > most {
			most = numberOfBits(u)
		}
	}
	return most
}

// wantImmune holds the shares against each other: of each k variables, and of all values of these.
func wantImmune(n int, f uint32, k int) bool {
	all := 1 << n
	ones := numberOfBits(int(f))
	for variables := range all {
		if numberOfBits(variables) != k {
			continue
		}
		for values := range all {
			if values&variables != values {
				continue
			}
			same, set := 0, 0
			for x := range all {
				if x&variables == values {
					same++
					set += tells(f, x)
				}
			}
			if set*all != ones*same {
				return false
			}
		}
	}
	return true
}

func askWaves(t *testing.T, n int, f uint32, want []int, wrong api.Errno) {
	t.Helper()
	if list, e := walsh.Waves(n, f); !slices.Equal(list, want) || e != wrong {
		t.Errorf("Waves(%d, %#x) = %v, %d; want %v, %d", n, f, list, e, want, wrong)
	}
}

func askAnf(t *testing.T, n int, f, want uint32, wrong api.Errno) {
	t.Helper()
	if g, e := walsh.Anf(n, f); g != want || e != wrong {
		t.Errorf("Anf(%d, %#x) = %#x, %d; want %#x, %d", n, f, g, e, want, wrong)
	}
}

func askDegree(t *testing.T, n int, f uint32, want int, wrong api.Errno) {
	t.Helper()
	if d, e := walsh.Degree(n, f); d != want || e != wrong {
		t.Errorf("Degree(%d, %#x) = %d, %d; want %d, %d", n, f, d, e, want, wrong)
	}
}

func askImmune(t *testing.T, n int, f uint32, k int, want bool, wrong api.Errno) {
	t.Helper()
	if is, e := walsh.Immune(n, f, k); is != want || e != wrong {
		t.Errorf("Immune(%d, %#x, %d) = %t, %d; want %t, %d", n, f, k, is, e, want, wrong)
	}
}

// askImmuneUpTo asks of each k: just those up to most are so.
func askImmuneUpTo(t *testing.T, n int, f uint32, most int) {
	t.Helper()
	for k := range n + 1 {
		askImmune(t, n, f, k, k <= most, api.OK)
	}
}

// askGood asks all calls of a function, and answers the greatest k of which it is immune.
func askGood(t *testing.T, n int, f uint32) int {
	t.Helper()
	askWaves(t, n, f, wantWaves(n, f), api.OK)
	g, e := walsh.Anf(n, f)
	if !isAnf(n, f, g) || e != api.OK {
		t.Errorf("Anf(%d, %#x) = %#x, %d", n, f, g, e)
	}
	askDegree(t, n, f, wantDegree(n, g), api.OK)
	most := 0
	for k := range n + 1 {
		want := wantImmune(n, f, k)
		askImmune(t, n, f, k, want, api.OK)
		if want {
			most = k
		}
	}
	return most
}

// askBad asks all calls of what is no function, with every k.
func askBad(t *testing.T, n int, f uint32) {
	t.Helper()
	askWaves(t, n, f, nil, api.ErrRange)
	askAnf(t, n, f, 0, api.ErrRange)
	askDegree(t, n, f, 0, api.ErrRange)
	for k := range api.MaxVars + 1 {
		askImmune(t, n, f, k, false, api.ErrRange)
	}
	for _, k := range append([]int{n, n - 1, n + 1}, farOrders...) {
		askImmune(t, n, f, k, false, api.ErrRange)
	}
}

// drawnSpace answers what is spanned by drawn numbers of n bits, moved by one more.
func drawnSpace(r *rand.Rand, n int) uint32 {
	space := []int{r.Intn(1 << n)}
	for range r.Intn(n) + 1 {
		by := r.Intn(1 << n)
		for _, x := range space {
			space = append(space, x^by)
		}
	}
	return made(n, func(x int) bool { return slices.Contains(space, x) })
}

func TestO1Vars(t *testing.T) {
	for _, n := range farVars {
		for _, f := range []uint32{0, 1, 2, 3, 6, 1 << 16, 1 << 31, math.MaxUint32} {
			askBad(t, n, f)
		}
	}
	for n := range api.MaxVars + 1 {
		for _, f := range []uint32{0, 1, full(n)} {
			askGood(t, n, f)
		}
	}
}

// Each bit by itself is one of f's, or one too many.
func TestO1Bits(t *testing.T) {
	for n := range api.MaxVars + 1 {
		for bit := range 32 {
			f := uint32(1) << bit
			if bit < 1<<n {
				askGood(t, n, f)
				continue
			}
			askBad(t, n, f)
			askBad(t, n, f+1)
			askBad(t, n, f|full(n))
			askBad(t, n, f-1|f)
			askBad(t, n, -f)
		}
	}
	r := rand.New(rand.NewSource(41))
	for range 2000 {
		n := r.Intn(api.MaxVars)
		if f := r.Uint32(); f > full(n) {
			askBad(t, n, f)
		}
	}
}

func TestO1Named(t *testing.T) {
	askWaves(t, 2, 6, []int{0, 0, 0, 4}, api.OK)
	askWaves(t, 0, 0, []int{1}, api.OK)
	askWaves(t, 0, 1, []int{-1}, api.OK)
	askWaves(t, 1, 0, []int{2, 0}, api.OK)
	askWaves(t, 1, 1, []int{0, -2}, api.OK)
	askWaves(t, 1, 2, []int{0, 2}, api.OK)
	askWaves(t, 1, 3, []int{-2, 0}, api.OK)
	// Both of two, and one alone: which variable is the first one, is to be seen.
	askWaves(t, 2, 8, []int{2, 2, 2, -2}, api.OK)
	askWaves(t, 2, 2, []int{2, 2, -2, 2}, api.OK)
	askWaves(t, 2, 4, []int{2, -2, 2, 2}, api.OK)
	// What most of three are.
	askWaves(t, 3, 0xe8, []int{0, 4, 4, 0, 4, 0, 0, -4}, api.OK)
	// Two variables, or two others: no wave is greater than another one.
	bent := made(4, func(x int) bool { return x&3 == 3 != (x&12 == 12) })
	askWaves(t, 4, bent, []int{4, 4, 4, -4, 4, 4, 4, -4, 4, 4, 4, -4, -4, -4, -4, 4}, api.OK)
}

// Every function of up to four variables.
func TestO1EveryFour(t *testing.T) {
	for n := range api.MaxVars {
		for f := range uint64(1) << (1 << n) {
			askGood(t, n, uint32(f))
		}
	}
}

// Of five: functions of few bits, all others but these, and drawn ones.
func TestO1Five(t *testing.T) {
	for a := range 32 {
		for b := range a + 1 {
			for c := range b + 1 {
				f := uint32(1)<<a | uint32(1)<<b | uint32(1)<<c
				askGood(t, 5, f)
				askGood(t, 5, ^f)
			}
		}
	}
	r := rand.New(rand.NewSource(42))
	for range 20000 {
		askGood(t, 5, r.Uint32())
	}
}

// Whether some of the variables are odd together is one wave alone, and turned round, it stands the other way.
func TestO1OneWave(t *testing.T) {
	for n := range api.MaxVars + 1 {
		for u := range 1 << n {
			f := made(n, func(x int) bool { return isOdd(x & u) })
			want := make([]int, 1<<n)
			want[u] = 1 << n
			askWaves(t, n, f, want, api.OK)
			want[u] = -1 << n
			askWaves(t, n, f^full(n), want, api.OK)
		}
	}
}

// The list that is answered is new each time.
func TestO1NewMemory(t *testing.T) {
	for n := range api.MaxVars + 1 {
		first, _ := walsh.Waves(n, 1)
		second, _ := walsh.Waves(n, 1)
		for u := range first {
			first[u] = 77
		}
		first = append(first, 77)
		if len(first) != 1<<n+1 || !slices.Equal(second, wantWaves(n, 1)) {
			t.Errorf("Waves(%d, 1) became %v", n, second)
		}
		askWaves(t, n, 1, wantWaves(n, 1), api.OK)
	}
}

func TestO2Named(t *testing.T) {
	askAnf(t, 2, 6, 6, api.OK)
	askDegree(t, 2, 6, 1, api.OK)
	named := []struct {
		n      int
		f, g   uint32
		degree int
	}{
		{0, 0, 0, -1}, {0, 1, 1, 0},
		{1, 0, 0, -1}, {1, 1, 3, 1}, {1, 2, 2, 1}, {1, 3, 1, 0},
		// Both, one of them, the first one alone, the second one alone, none.
		{2, 8, 8, 2}, {2, 14, 14, 2}, {2, 2, 10, 2}, {2, 4, 12, 2}, {2, 1, 15, 2},
		{2, 10, 2, 1}, {2, 12, 4, 1}, {2, 9, 7, 1},
		// What most of three are: two of them, in each way.
		{3, 0xe8, 0x68, 2},
		{4, 0x8000, 0x8000, 4}, {4, 1, 0xffff, 4}, {4, 0xffff, 1, 0}, {4, 0, 0, -1},
		{5, 1 << 31, 1 << 31, 5}, {5, 1, math.MaxUint32, 5}, {5, math.MaxUint32, 1, 0}, {5, 0, 0, -1},
		{5, 0xffff0000, 1 << 16, 1}, {5, 0x0000ffff, 1<<16 | 1, 1},
	}
	for _, w := range named {
		if !isAnf(w.n, w.f, w.g) {
			t.Errorf("%#x is not the Anf of %#x", w.g, w.f)
		}
		askAnf(t, w.n, w.f, w.g, api.OK)
		askDegree(t, w.n, w.f, w.degree, api.OK)
	}
}

// No variable at all is the sum of nothing but one: by all n, 0 has no product, so that its Degree is -1.
func TestO2Still(t *testing.T) {
	for n := range api.MaxVars + 1 {
		askAnf(t, n, 0, 0, api.OK)
		askDegree(t, n, 0, -1, api.OK)
		askAnf(t, n, full(n), 1, api.OK)
		askDegree(t, n, full(n), 0, api.OK)
	}
}

// One product alone: all of whose variables are set, and its Degree is how many these are.
func TestO2OneProduct(t *testing.T) {
	for n := range api.MaxVars + 1 {
		for u := range 1 << n {
			f := made(n, func(x int) bool { return x&u == u })
			askAnf(t, n, f, uint32(1)<<u, api.OK)
			askDegree(t, n, f, numberOfBits(u), api.OK)
		}
	}
}

// Of each sum of products the products are found again.
func TestO2FoundAgain(t *testing.T) {
	r := rand.New(rand.NewSource(43))
	for n := range api.MaxVars + 1 {
		for range 3000 {
			g := r.Uint32() & full(n)
			if r.Intn(2) == 0 {
				g &= r.Uint32() & r.Uint32() & r.Uint32()
			}
			f := made(n, func(x int) bool {
				many := 0
				for u := range 1 << n {
					if u&x == u {
						many += tells(g, u)
					}
				}
				return many%2 == 1
			})
			askAnf(t, n, f, g, api.OK)
			askDegree(t, n, f, wantDegree(n, g), api.OK)
		}
	}
}

// The Degree is n just if f has an odd number of bits.
func TestO2Odd(t *testing.T) {
	r := rand.New(rand.NewSource(44))
	for range 5000 {
		f := r.Uint32()
		if d, e := walsh.Degree(5, f); (d == 5) != isOdd(int(f)) || d > 5 || e != api.OK {
			t.Errorf("Degree(5, %#x) = %d, %d", f, d, e)
		}
	}
}

func TestO3Range(t *testing.T) {
	for n := range api.MaxVars + 1 {
		for _, f := range []uint32{0, 1, full(n), full(n) & 0x96696996, full(n) & 6} {
			for _, k := range append([]int{n + 1, n + 2}, farOrders...) {
				askImmune(t, n, f, k, false, api.ErrRange)
			}
			for k := -40; k <= 300; k++ {
				if k < 0 || k > n {
					askImmune(t, n, f, k, false, api.ErrRange)
				}
			}
		}
	}
}

func TestO3Named(t *testing.T) {
	askImmune(t, 2, 6, 0, true, api.OK)
	askImmune(t, 2, 6, 1, true, api.OK)
	askImmune(t, 2, 6, 2, false, api.OK)
	askImmuneUpTo(t, 2, 9, 1)
	// One variable alone tells all of itself, though the other one tells nothing.
	askImmuneUpTo(t, 2, 10, 0)
	askImmuneUpTo(t, 2, 12, 0)
	askImmuneUpTo(t, 2, 8, 0)
	// What most of three are: half of all, but each of the three tells something.
	askImmuneUpTo(t, 3, 0xe8, 0)
	// All alike, and not all alike: not half of all, but no one of them tells anything.
	askImmuneUpTo(t, 3, 0x81, 1)
	askImmuneUpTo(t, 3, 0x7e, 1)
	askImmuneUpTo(t, 5, 0x80000001, 1)
	// The first one by choice of the second and the third one: these tell nothing, but the choice is seen.
	askImmuneUpTo(t, 3, made(3, func(x int) bool { return x&1 == 1 && x&2 == 2 || x&1 == 0 && x&4 == 4 }), 0)
	askImmuneUpTo(t, 0, 0, 0)
	askImmuneUpTo(t, 0, 1, 0)
}

// What is the same for each number is immune of every k, and nothing else is of n.
func TestO3Still(t *testing.T) {
	for n := range api.MaxVars + 1 {
		askImmuneUpTo(t, n, 0, n)
		askImmuneUpTo(t, n, full(n), n)
		r := rand.New(rand.NewSource(45))
		for range 1000 {
			if f := r.Uint32() & full(n); f != 0 && f != full(n) {
				askImmune(t, n, f, n, false, api.OK)
			}
		}
	}
}

// Whether some of the variables are odd together, nobody knows who lacks one of them.
func TestO3Odd(t *testing.T) {
	for n := 1; n <= api.MaxVars; n++ {
		for u := 1; u < 1<<n; u++ {
			f := made(n, func(x int) bool { return isOdd(x & u) })
			askImmuneUpTo(t, n, f, numberOfBits(u)-1)
			askImmuneUpTo(t, n, f^full(n), numberOfBits(u)-1)
		}
	}
}

// Of five variables: spaces, functions of fewer variables with the others added to them, and what is the same when all bits are turned round. Some of these are immune of every k.
func TestO3Five(t *testing.T) {
	r := rand.New(rand.NewSource(46))
	var came [api.MaxVars + 1]int
	for range 6000 {
		came[askGood(t, 5, drawnSpace(r, 5))]++
		few, g := 1+r.Intn(4), r.Uint32()
		added := made(5, func(x int) bool { return tells(g, x%(1<<few)) == 1 != isOdd(x>>few) })
		came[askGood(t, 5, added)]++
		round := made(5, func(x int) bool { return tells(g, min(x, 31-x)) == 1 })
		came[askGood(t, 5, round)]++
	}
	for k, many := range came {
		if many == 0 {
			t.Errorf("no function drawn was immune of just up to %d", k)
		}
	}
}

// Who is immune of k is so of each k below it, too.
func TestO3Falls(t *testing.T) {
	r := rand.New(rand.NewSource(47))
	for range 6000 {
		n := 1 + r.Intn(api.MaxVars)
		f := drawnSpace(r, n)
		for k := range n {
			lower, _ := walsh.Immune(n, f, k)
			if upper, _ := walsh.Immune(n, f, k+1); upper && !lower {
				t.Errorf("Immune(%d, %#x) of %d, but not of %d", n, f, k+1, k)
			}
		}
	}
}
