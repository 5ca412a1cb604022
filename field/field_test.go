package field_test

import (
	"math"
	"math/rand"
	"slices"
	"testing"

	"lockwright/api"
	"lockwright/field"
	"lockwright/log"
)

const (
	longest = api.MaxDeg + 1
	// mark stands behind the lists that are handed in.
	mark = int64(-77)
)

// farPrimes: what no call takes as p, just beyond the limits and as far out as can be; there are primes among them.
var farPrimes = []int64{1, 0, -1, -2, -3, -7, -251, 252, 253, 257, 263, 4093, 65537, 1<<32 + 2, 1<<32 + 15, math.MaxInt64, math.MinInt64, math.MinInt64 + 1}

// noPrimes: what is in range, and no prime.
var noPrimes = []int64{4, 6, 8, 9, 15, 25, 49, 64, 91, 121, 169, 221, 249, 250}

// wrongForms: what is no polynomial by 7, though it is not too long.
func wrongForms() [][]int64 {
	list := [][]int64{{0}, {0, 0}, {1, 0}, {1, 1, 0}, append(make([]int64, longest-1), 0)}
	for _, n := range []int64{-1, -7, 7, 8, 1<<32 + 1, math.MaxInt64, math.MinInt64} {
		list = append(list, []int64{n}, []int64{n, 1}, []int64{1, n}, []int64{1, n, 1}, []int64{1, n, 2}, append(make([]int64, longest-2), n, 1))
	}
	return list
}

// tooLong: lists with more than MaxDeg + 1 numbers, good and bad ones.
func tooLong() [][]int64 {
	ones := slices.Repeat([]int64{1}, longest+1)
	return [][]int64{ones, make([]int64, longest+1), slices.Repeat([]int64{-1}, longest+1), slices.Repeat([]int64{2}, 5000)}
}

// wrongEnds: polynomials by 7 that are too short, or have another last number than 1; some of them would have too great a size, or are products.
func wrongEnds() [][]int64 {
	return [][]int64{nil, {}, {1}, {3}, {6}, {0, 2}, {1, 6}, {0, 0, 3}, {1, 2, 1, 2}, append(make([]int64, longest-1), 2)}
}

// tooGreat: polynomials by 7 whose size is above MaxField, products and others.
func tooGreat() [][]int64 {
	return [][]int64{{0, 0, 0, 0, 0, 1}, {3, 6, 0, 0, 0, 1}, slices.Repeat([]int64{1}, longest), append(make([]int64, longest-1), 1)}
}

// products: of degrees from 1 on, by 7.
func products() [][]int64 {
	return [][]int64{{0, 0, 1}, {0, 1, 1}, {6, 0, 1}, {1, 2, 1}, {0, 0, 0, 1}, {1, 0, 2, 0, 1}}
}

func isPrime(n int64) bool {
	for d := int64(2); d < n; d++ {
		if n%d == 0 {
			return false
		}
	}
	return n > 1
}

// kind: what fields of one size have in common.
type kind struct {
	p    int64
	k    int
	size int64
}

// kinds answers all kinds of a size up to most.
func kinds(most int64) []kind {
	var list []kind
	for p := range int64(api.MaxPrime + 1) {
		if !isPrime(p) {
			continue
		}
		for k, size := 1, p; size <= most; k, size = k+1, size*p {
			list = append(list, kind{p, k, size})
		}
	}
	return list
}

// digits answers count digits of n in the base p.
func digits(p, n int64, count int) []int64 {
	list := make([]int64, count)
	for i := range list {
		list[i], n = n%p, n/p
	}
	return list
}

func number(p int64, list []int64) int64 {
	n, weight := int64(0), int64(1)
	for _, c := range list {
		n += c * weight
		weight *= p
	}
	return n
}

// ending answers the polynomial with the digits of n, count of them, and a 1 behind them.
func ending(p, n int64, count int) []int64 { return append(digits(p, n, count), 1) }

// convolve answers the product of two lists, as long as both together, less one.
func convolve(p int64, a, b []int64) []int64 {
	out := make([]int64, len(a)+len(b)-1)
	for i := range a {
		for j := range b {
			out[i+j] = (out[i+j] + a[i]*b[j]) % p
		}
	}
	return out
}

// sieve answers, of each polynomial of the kind by the number of its digits, whether it is a product: all products are written down.
func sieve(c kind) []bool {
	is := make([]bool, c.size)
	for i, left := 1, c.p; 2*i <= c.k; i, left = i+1, left*c.p {
		for a := range left {
			for b := range c.size / left {
				product := convolve(c.p, ending(c.p, a, i), ending(c.p, b, c.k-i))
				is[number(c.p, product[:c.k])] = true
			}
		}
	}
	return is
}

// fields answers the polynomials of all fields of the kind.
func fields(c kind) [][]int64 {
	var list [][]int64
	for n, product := range sieve(c) {
		if !product {
			list = append(list, ending(c.p, int64(n), c.k))
		}
	}
	return list
}

// some answers count of the list, the first and the last one among them.
func some(r *rand.Rand, list [][]int64, count int) [][]int64 {
	if len(list) <= count {
		return list
	}
	out := [][]int64{list[0], list[len(list)-1]}
	for len(out) < count {
		out = append(out, list[r.Intn(len(list))])
	}
	return out
}

func wantAdd(p, a, b int64) int64 {
	c, d := digits(p, a, longest), digits(p, b, longest)
	for i := range c {
		c[i] = (c[i] + d[i]) % p
	}
	return number(p, c)
}

// wantMul goes through b's digits from the greatest down: each time what there is becomes x times as much, and what comes to stand at x^k is put as what f makes of x^k.
func wantMul(p int64, f []int64, a, b int64) int64 {
	k := len(f) - 1
	c, d := digits(p, a, k), digits(p, b, k)
	out := make([]int64, k)
	for i := k - 1; i >= 0; i-- {
		top := out[k-1]
		copy(out[1:], out[:k-1])
		out[0] = 0
		for j := range out {
			out[j] = (out[j] + top*(p-f[j]) + d[i]*c[j]) % p
		}
	}
	return number(p, out)
}

// searchedMul takes each polynomial times f away from the product, until nothing is left from x^k on.
func searchedMul(c kind, f []int64, a, b int64) int64 {
	product := convolve(c.p, digits(c.p, a, c.k), digits(c.p, b, c.k))
	for q := range c.size / c.p {
		out := slices.Concat(product, []int64{0, 0})
		for i, n := range convolve(c.p, f, digits(c.p, q, c.k)) {
			out[i] = (out[i] + (c.p-1)*n) % c.p
		}
		if number(c.p, out[c.k:]) == 0 {
			return number(c.p, out[:c.k])
		}
	}
	return -1
}

// wantBase goes through the powers of each element from 1 on, until one's are all elements but 0.
func wantBase(p int64, f []int64, size int64) int64 {
	for g := int64(1); g < size; g++ {
		count, x := int64(1), g
		for x != 1 {
			x = wantMul(p, f, x, g)
			count++
		}
		if count == size-1 {
			return g
		}
	}
	return -1
}

// guarded lays f into longer memory, and answers it with what asks whether all of that is still as it was.
func guarded(f []int64) ([]int64, func() bool) {
	memory := slices.Concat(f, slices.Repeat([]int64{mark}, longest+3))
	before := slices.Clone(memory)
	return memory[:len(f)], func() bool { return slices.Equal(memory, before) }
}

func checkCheck(t *testing.T, p int64, f []int64, wrong api.Errno) {
	t.Helper()
	given, same := guarded(f)
	if e := field.Check(p, given); e != wrong {
		t.Errorf("Check(%d, %v) = %d; want %d", p, f, e, wrong)
	}
	if !same() {
		t.Errorf("Check(%d, %v) changed what was given", p, f)
	}
}

// call is Add or Mul.
type call func(p int64, f []int64, a, b int64) (int64, api.Errno)

func checkCall(t *testing.T, name string, do call, p int64, f []int64, a, b, want int64, wrong api.Errno) {
	t.Helper()
	given, same := guarded(f)
	if n, e := do(p, given, a, b); n != want || e != wrong {
		t.Errorf("%s(%d, %v, %d, %d) = %d, %d; want %d, %d", name, p, f, a, b, n, e, want, wrong)
	}
	if !same() {
		t.Errorf("%s(%d, %v, %d, %d) changed what was given", name, p, f, a, b)
	}
}

func checkAdd(t *testing.T, p int64, f []int64, a, b, want int64, wrong api.Errno) {
	t.Helper()
	checkCall(t, "Add", field.Add, p, f, a, b, want, wrong)
}

func checkMul(t *testing.T, p int64, f []int64, a, b, want int64, wrong api.Errno) {
	t.Helper()
	checkCall(t, "Mul", field.Mul, p, f, a, b, want, wrong)
}

func checkInv(t *testing.T, p int64, f []int64, a, want int64, wrong api.Errno) {
	t.Helper()
	given, same := guarded(f)
	if n, e := field.Inv(p, given, a); n != want || e != wrong {
		t.Errorf("Inv(%d, %v, %d) = %d, %d; want %d, %d", p, f, a, n, e, want, wrong)
	}
	if !same() {
		t.Errorf("Inv(%d, %v, %d) changed what was given", p, f, a)
	}
}

// checkInverse holds Inv to K2's own words: there is but one such element.
func checkInverse(t *testing.T, p int64, f []int64, size, a int64) {
	t.Helper()
	n, e := field.Inv(p, f, a)
	if e != api.OK || n < 1 || n >= size || wantMul(p, f, n, a) != 1 {
		t.Errorf("Inv(%d, %v, %d) = %d, %d", p, f, a, n, e)
	}
}

func checkBase(t *testing.T, p int64, f []int64, want int64, wrong api.Errno) {
	t.Helper()
	given, same := guarded(f)
	if n, e := field.Base(p, given); n != want || e != wrong {
		t.Errorf("Base(%d, %v) = %d, %d; want %d, %d", p, f, n, e, want, wrong)
	}
	if !same() {
		t.Errorf("Base(%d, %v) changed what was given", p, f)
	}
}

// checkAll asks every call for one error that is the field's, whatever the elements are.
func checkAll(t *testing.T, p int64, f []int64, wrong api.Errno) {
	t.Helper()
	checkCheck(t, p, f, wrong)
	checkBase(t, p, f, 0, wrong)
	for _, a := range []int64{0, 1, -1, 4096, math.MaxInt64, math.MinInt64} {
		checkInv(t, p, f, a, 0, wrong)
		for _, b := range []int64{0, 1, -1, 4096} {
			checkAdd(t, p, f, a, b, 0, wrong)
			checkMul(t, p, f, a, b, 0, wrong)
		}
	}
}

func TestK1Named(t *testing.T) {
	checkCheck(t, 2, []int64{1, 1, 1}, api.OK)
	checkCheck(t, 2, []int64{1, 0, 1}, api.ErrForm)
	checkCheck(t, 2, []int64{0, 1}, api.OK)
	checkCheck(t, 2, []int64{1, 1}, api.OK)
	checkCheck(t, 3, []int64{1, 0, 1}, api.OK)
	checkCheck(t, 3, []int64{1, 0, 2}, api.ErrArg)
	checkCheck(t, 5, []int64{1, 0, 1}, api.ErrForm)       // 2 and 3 are roots
	checkCheck(t, 2, []int64{1, 0, 1, 0, 1}, api.ErrForm) // no root, but a square
	checkCheck(t, 2, []int64{1, 1, 0, 1, 1, 0, 0, 0, 1}, api.OK)
	checkCheck(t, 251, []int64{250, 1}, api.OK)
	checkCheck(t, 7, []int64{1}, api.ErrArg)
	checkCheck(t, 7, nil, api.ErrArg)
}

// Of every kind of field that there is, every polynomial that ends with 1.
func TestK1AllPolynomials(t *testing.T) {
	for _, c := range kinds(api.MaxField) {
		for n, product := range sieve(c) {
			want := api.OK
			if product {
				want = api.ErrForm
			}
			checkCheck(t, c.p, ending(c.p, int64(n), c.k), want)
		}
	}
}

// How many of each degree are no products is known, however they are found: p^k is the sum of d times the number of those of the degree d, over the divisors d of k.
func TestK1Counts(t *testing.T) {
	count := map[kind]int64{}
	for _, c := range kinds(api.MaxField) {
		for n := range c.size {
			if field.Check(c.p, ending(c.p, n, c.k)) == api.OK {
				count[kind{p: c.p, k: c.k}]++
			}
		}
		sum := int64(0)
		for d := 1; d <= c.k; d++ {
			if c.k%d == 0 {
				sum += int64(d) * count[kind{p: c.p, k: d}]
			}
		}
		if sum != c.size {
			t.Errorf("by %d, of the degree %d: %d in all; want %d", c.p, c.k, sum, c.size)
		}
	}
}

func TestK1Primes(t *testing.T) {
	for p := int64(-300); p <= 600; p++ {
		want := api.OK
		if p < 2 || p > 251 {
			want = api.ErrRange
		} else if !isPrime(p) {
			want = api.ErrArg
		}
		checkCheck(t, p, []int64{0, 1}, want)
		checkCheck(t, p, []int64{1, 1}, want)
	}
}

// Each prime with each degree, so that the size goes from 2 to far beyond what an int64 can hold.
func TestK1Sizes(t *testing.T) {
	for k := 1; k <= api.MaxDeg; k++ {
		for p := int64(2); p <= api.MaxPrime; p++ {
			if !isPrime(p) {
				continue
			}
			want := api.ErrForm
			if math.Pow(float64(p), float64(k)) > api.MaxField {
				want = api.ErrLarge
			} else if k == 1 {
				want = api.OK
			}
			// x^k is a product, if k is above 1; ErrLarge is named ahead of that.
			checkCheck(t, p, append(make([]int64, k), 1), want)
		}
	}
	checkCheck(t, 61, []int64{60, 0, 1}, api.ErrForm)
	checkCheck(t, 61, []int64{59, 0, 1}, api.OK) // no square leaves 2, divided by 61
	checkCheck(t, 67, []int64{1, 0, 1}, api.ErrLarge)
	checkCheck(t, 2, []int64{1, 1, 0, 0, 1, 0, 1, 0, 0, 0, 0, 0, 1}, api.OK)
}

// What is named first is told: J1's errors, the degree and the last number, the size, the form; and all of them ahead of what is wrong with elements.
func TestK1Order(t *testing.T) {
	all := slices.Concat(tooLong(), wrongForms(), wrongEnds(), tooGreat(), products(), [][]int64{{1, 0, 1}})
	for _, f := range all {
		for _, p := range farPrimes {
			checkAll(t, p, f, api.ErrRange)
		}
		for _, p := range noPrimes {
			checkAll(t, p, f, api.ErrArg)
		}
	}
	for wrong, list := range map[api.Errno][][]int64{api.ErrLarge: slices.Concat(tooLong(), tooGreat()), api.ErrForm: slices.Concat(wrongForms(), products()), api.ErrArg: wrongEnds()} {
		for _, f := range list {
			checkAll(t, 7, f, wrong)
		}
	}
	checkAll(t, 67, []int64{0, 0, 2}, api.ErrArg)
	checkAll(t, 251, []int64{0, 0, 1}, api.ErrLarge)
	checkAll(t, 251, append(make([]int64, longest-1), 250), api.ErrArg)
	checkAll(t, 251, append(make([]int64, longest-1), 1), api.ErrLarge)
	checkAll(t, 251, append(make([]int64, longest-1), 251), api.ErrForm)
	checkAll(t, 251, append(make([]int64, longest), 1), api.ErrLarge)
}

func TestK2Named(t *testing.T) {
	f := []int64{1, 1, 1}
	checkMul(t, 2, f, 2, 2, 3, api.OK)
	checkMul(t, 2, f, 2, 3, 1, api.OK)
	checkMul(t, 2, f, 3, 3, 2, api.OK)
	checkAdd(t, 2, f, 2, 3, 1, api.OK)
	checkAdd(t, 2, f, 3, 3, 0, api.OK)
	checkInv(t, 2, f, 2, 3, api.OK)
	checkInv(t, 2, f, 3, 2, api.OK)
	checkInv(t, 2, f, 1, 1, api.OK)
	checkInv(t, 2, f, 0, 0, api.ErrNone)
	checkBase(t, 2, f, 2, api.OK)
	// By 3, with x^2 being -1: 4 is 1 + x, and its square 2 x.
	g := []int64{1, 0, 1}
	checkMul(t, 3, g, 3, 3, 2, api.OK)
	checkMul(t, 3, g, 4, 4, 6, api.OK)
	checkAdd(t, 3, g, 4, 5, 6, api.OK)
	checkAdd(t, 3, g, 8, 8, 4, api.OK)
	checkInv(t, 3, g, 3, 6, api.OK)
	checkBase(t, 3, g, 4, api.OK)
	// The well-known field of 256, in which 83 and 202 are each other's inverse, and x is not the base, but 1 + x.
	h := []int64{1, 1, 0, 1, 1, 0, 0, 0, 1}
	checkMul(t, 2, h, 0x57, 0x83, 0xc1, api.OK)
	checkMul(t, 2, h, 0x53, 0xca, 1, api.OK)
	checkInv(t, 2, h, 0x53, 0xca, api.OK)
	checkAdd(t, 2, h, 0x57, 0x83, 0xd4, api.OK)
	checkBase(t, 2, h, 3, api.OK)
}

// In a field of two there is no element but 0 and 1.
func TestK2FieldsOfTwo(t *testing.T) {
	for _, f := range [][]int64{{0, 1}, {1, 1}} {
		for a := range int64(2) {
			for b := range int64(2) {
				checkAdd(t, 2, f, a, b, a^b, api.OK)
				checkMul(t, 2, f, a, b, a&b, api.OK)
			}
		}
		checkInv(t, 2, f, 0, 0, api.ErrNone)
		checkInv(t, 2, f, 1, 1, api.OK)
		checkBase(t, 2, f, 1, api.OK)
	}
}

// Of the degree 1 the elements are the numbers by p, whatever f's first number is.
func TestK2DegreeOne(t *testing.T) {
	r := rand.New(rand.NewSource(15))
	for _, c := range kinds(api.MaxField) {
		if c.k > 1 {
			continue
		}
		base, _ := log.Base(c.p)
		for first := range c.p {
			f := []int64{first, 1}
			checkBase(t, c.p, f, base, api.OK)
			for range 10 {
				a, b := r.Int63n(c.p), r.Int63n(c.p)
				checkAdd(t, c.p, f, a, b, (a+b)%c.p, api.OK)
				checkMul(t, c.p, f, a, b, a*b%c.p, api.OK)
				checkInverse(t, c.p, f, c.size, 1+r.Int63n(c.p-1))
			}
		}
	}
}

// All fields of few elements, and all elements of them, by nothing but the document's words.
func TestK2AllSmall(t *testing.T) {
	for _, c := range kinds(32) {
		for _, f := range fields(c) {
			checkBase(t, c.p, f, wantBase(c.p, f, c.size), api.OK)
			checkInv(t, c.p, f, 0, 0, api.ErrNone)
			for a := range c.size {
				for b := range c.size {
					product := searchedMul(c, f, a, b)
					checkAdd(t, c.p, f, a, b, wantAdd(c.p, a, b), api.OK)
					checkMul(t, c.p, f, a, b, product, api.OK)
					if product == 1 {
						checkInv(t, c.p, f, a, b, api.OK)
					}
				}
			}
		}
	}
}

func TestK2AllPairs(t *testing.T) {
	for _, c := range kinds(128) {
		for _, f := range some(rand.New(rand.NewSource(16)), fields(c), 2) {
			for a := range c.size {
				for b := range c.size {
					checkAdd(t, c.p, f, a, b, wantAdd(c.p, a, b), api.OK)
					checkMul(t, c.p, f, a, b, wantMul(c.p, f, a, b), api.OK)
				}
			}
		}
	}
}

// Of every kind that there is, up to a size of MaxField: with the greatest elements, products have the most numbers.
func TestK2EveryKind(t *testing.T) {
	r := rand.New(rand.NewSource(17))
	for _, c := range kinds(api.MaxField) {
		for _, f := range some(r, fields(c), 8) {
			elements := []int64{0, 1, c.p - 1, c.size / c.p, c.size / 2, c.size - 1}
			for range 12 {
				elements = append(elements, r.Int63n(c.size))
			}
			for _, a := range elements {
				for _, b := range elements {
					checkAdd(t, c.p, f, a, b, wantAdd(c.p, a, b), api.OK)
					checkMul(t, c.p, f, a, b, wantMul(c.p, f, a, b), api.OK)
				}
			}
		}
	}
}

func TestK2InvEveryKind(t *testing.T) {
	r := rand.New(rand.NewSource(18))
	for _, c := range kinds(api.MaxField) {
		for _, f := range some(r, fields(c), 2) {
			checkInv(t, c.p, f, 0, 0, api.ErrNone)
			for a := int64(1); a < c.size; a++ {
				checkInverse(t, c.p, f, c.size, a)
			}
		}
	}
}

func TestK2BaseEveryKind(t *testing.T) {
	r := rand.New(rand.NewSource(19))
	for _, c := range kinds(api.MaxField) {
		for _, f := range some(r, fields(c), 5) {
			checkBase(t, c.p, f, wantBase(c.p, f, c.size), api.OK)
		}
	}
}

// What is no element is told ahead of a being 0 in Inv, be it a or b, and however far out.
func TestK2NoElement(t *testing.T) {
	for _, c := range kinds(api.MaxField) {
		f := fields(c)[0]
		for _, far := range []int64{-1, -2, -c.size, c.size, c.size + 1, 2 * c.size, api.MaxField, api.MaxField + 1, 1 << 32, 1<<32 + 1, math.MaxInt64, math.MinInt64, math.MinInt64 + 1} {
			if far >= 0 && far < c.size {
				continue
			}
			checkInv(t, c.p, f, far, 0, api.ErrRange)
			for _, near := range []int64{0, 1, c.size - 1} {
				for _, e := range [][2]int64{{far, near}, {near, far}, {far, far}} {
					checkAdd(t, c.p, f, e[0], e[1], 0, api.ErrRange)
					checkMul(t, c.p, f, e[0], e[1], 0, api.ErrRange)
				}
			}
		}
	}
}

func TestK2AgainAndAgain(t *testing.T) {
	f := []int64{1, 1, 0, 1}
	for range 200 {
		checkMul(t, 2, f, 6, 7, 4, api.OK)
		checkInv(t, 2, f, 2, 5, api.OK)
		checkInv(t, 2, f, 8, 0, api.ErrRange)
		checkBase(t, 2, f, 2, api.OK)
		checkCheck(t, 2, []int64{1, 1, 1, 1}, api.ErrForm)
	}
}
