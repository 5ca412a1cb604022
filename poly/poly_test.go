package poly_test

import (
	"math"
	"math/big"
	"math/rand"
	"slices"
	"testing"

	"lockwright/api"
	"lockwright/poly"
)

const (
	most    = int64(api.MaxNum)
	longest = api.MaxDeg + 1
	// mark stands behind the lists that are handed in.
	mark = int64(-77)
)

// farPrimes: what no call takes as p, just beyond the limits and as far out as can be; there are primes among them.
var farPrimes = []int64{1, 0, -1, -2, -3, -7, -251, 252, 253, 257, 263, 1009, 65537, api.MaxMod, most - 1, most, 1<<32 + 7, 1<<32 + 15, math.MaxInt64, math.MinInt64, math.MinInt64 + 1}

// noPrimes: what is in range, and no prime.
var noPrimes = []int64{4, 6, 8, 9, 15, 25, 49, 91, 121, 169, 221, 247, 249, 250}

// farPlaces: what At does not take as x.
var farPlaces = []int64{most + 1, -most - 1, 1<<32 + 1, -1<<32 - 1, math.MaxInt64, math.MinInt64, math.MinInt64 + 1}

// wrongForms: what is no polynomial by 7, though it is not too long.
func wrongForms() [][]int64 {
	list := [][]int64{{0}, {0, 0}, {1, 0}, {1, 2, 0}, append(make([]int64, longest-1), 0)}
	for _, n := range []int64{-1, -7, 7, 8, 1<<32 + 1, math.MaxInt64, math.MinInt64} {
		list = append(list, []int64{n}, []int64{n, 1}, []int64{1, n}, []int64{1, n, 1}, append(make([]int64, longest-2), n, 1))
	}
	return list
}

// tooLong: lists with more than MaxDeg + 1 numbers, good and bad ones.
func tooLong() [][]int64 {
	ones := slices.Repeat([]int64{1}, longest+1)
	return [][]int64{ones, make([]int64, longest+1), slices.Repeat([]int64{-1}, longest+1), slices.Repeat([]int64{1}, 5000)}
}

func isPrime(n int64) bool {
	for d := int64(2); d < n; d++ {
		if n%d == 0 {
			return false
		}
	}
	return n > 1
}

func allPrimes() []int64 {
	var list []int64
	for p := range int64(252) {
		if isPrime(p) {
			list = append(list, p)
		}
	}
	return list
}

// left answers what is left of n, divided by m, from 0 on.
func left(n, m int64) int64 { return (n%m + m) % m }

// coefficient answers what a has of x^i, also where the list has ended.
func coefficient(a []int64, i int) int64 {
	if i < 0 || i >= len(a) {
		return 0
	}
	return a[i]
}

// short answers the numbers up to the last one that is not 0, each as what it leaves.
func short(p int64, all []int64) []int64 {
	end := 0
	out := make([]int64, len(all))
	for i, n := range all {
		out[i] = left(n, p)
		if out[i] != 0 {
			end = i + 1
		}
	}
	return out[:end]
}

func wantSum(p int64, a, b []int64) []int64 {
	all := make([]int64, max(len(a), len(b)))
	for i := range all {
		all[i] = coefficient(a, i) + coefficient(b, i)
	}
	return short(p, all)
}

func wantProduct(p int64, a, b []int64) []int64 {
	all := make([]int64, len(a)+len(b))
	for k := range all {
		for i := range k + 1 {
			all[k] += coefficient(a, i) * coefficient(b, k-i)
		}
	}
	return short(p, all)
}

// wantValue adds the powers up as they are, and divides once at the end.
func wantValue(p int64, a []int64, x int64) int64 {
	all := new(big.Int)
	for i, n := range a {
		term := new(big.Int).Exp(big.NewInt(x), big.NewInt(int64(i)), nil)
		all.Add(all, term.Mul(term, big.NewInt(n)))
	}
	return all.Mod(all, big.NewInt(p)).Int64()
}

// polynomials answers all polynomials by p of at most count numbers.
func polynomials(p int64, count int) [][]int64 {
	lists := [][]int64{nil}
	for n := 1; n <= count; n++ {
		lists = append(lists, ofLength(p, n)...)
	}
	return lists
}

// ofLength answers all polynomials by p of n numbers.
func ofLength(p int64, n int) [][]int64 {
	size := int64(1)
	for range n {
		size *= p
	}
	var lists [][]int64
	for code := size / p; code < size; code++ {
		a, rest := make([]int64, n), code
		for i := range a {
			a[i], rest = rest%p, rest/p
		}
		lists = append(lists, a)
	}
	return lists
}

// draw answers a polynomial by p of n numbers.
func draw(r *rand.Rand, p int64, n int) []int64 {
	a := make([]int64, n)
	for i := range a {
		a[i] = r.Int63n(p)
	}
	if n > 0 {
		a[n-1] = 1 + r.Int63n(p-1)
	}
	return a
}

// guarded lays a into longer memory, and answers it with what asks whether all of that is still as it was.
func guarded[T comparable](a []T, behind T) ([]T, func() bool) {
	memory := slices.Concat(a, slices.Repeat([]T{behind}, longest+3))
	before := slices.Clone(memory)
	return memory[:len(a)], func() bool { return slices.Equal(memory, before) }
}

// spoil writes over all that an answer has, also behind its length: whoever shares it is changed.
func spoil(answers ...[]int64) {
	for _, a := range answers {
		a = a[:cap(a)]
		for i := range a {
			a[i] = mark - 1
		}
	}
}

func checkCheck(t *testing.T, p int64, a []int64, wrong api.Errno) {
	t.Helper()
	given, same := guarded(a, mark)
	if e := poly.Check(p, given); e != wrong {
		t.Errorf("Check(%d, %v) = %d; want %d", p, a, e, wrong)
	}
	if !same() {
		t.Errorf("Check(%d, %v) changed what was given", p, a)
	}
}

// call is Add, Mul or Gcd.
type call func(p int64, a, b []int64) ([]int64, api.Errno)

func checkCall(t *testing.T, name string, f call, p int64, a, b, want []int64, wrong api.Errno) {
	t.Helper()
	c, sameA := guarded(a, mark)
	d, sameB := guarded(b, mark)
	got, e := f(p, c, d)
	if !slices.Equal(got, want) || e != wrong {
		t.Errorf("%s(%d, %v, %v) = %v, %d; want %v, %d", name, p, a, b, got, e, want, wrong)
	}
	spoil(got)
	if !sameA() || !sameB() {
		t.Errorf("%s(%d, %v, %v) changed or shares what was given", name, p, a, b)
	}
}

func checkAdd(t *testing.T, p int64, a, b, want []int64) {
	t.Helper()
	checkCall(t, "Add", poly.Add, p, a, b, want, api.OK)
}

func checkMul(t *testing.T, p int64, a, b, want []int64) {
	t.Helper()
	checkCall(t, "Mul", poly.Mul, p, a, b, want, api.OK)
}

func checkGcd(t *testing.T, p int64, a, b, want []int64) {
	t.Helper()
	checkCall(t, "Gcd", poly.Gcd, p, a, b, want, api.OK)
}

// checkDiv holds Div to J2's own words: there is but one such q and r.
func checkDiv(t *testing.T, p int64, a, b []int64) {
	t.Helper()
	c, sameA := guarded(a, mark)
	d, sameB := guarded(b, mark)
	q, r, e := poly.Div(p, c, d)
	good := e == api.OK && isPolynomial(p, q) && isPolynomial(p, r) && len(r) < len(b)
	if !good || !slices.Equal(wantSum(p, wantProduct(p, q, b), r), a) {
		t.Errorf("Div(%d, %v, %v) = %v, %v, %d", p, a, b, q, r, e)
	}
	rest := slices.Clone(r)
	spoil(q)
	if !slices.Equal(r, rest) {
		t.Errorf("Div(%d, %v, %v): q and r share memory", p, a, b)
	}
	spoil(r)
	if !sameA() || !sameB() {
		t.Errorf("Div(%d, %v, %v) changed or shares what was given", p, a, b)
	}
}

func isPolynomial(p int64, a []int64) bool {
	return slices.Equal(short(p, a), a)
}

func checkAt(t *testing.T, p int64, a []int64, x, want int64, wrong api.Errno) {
	t.Helper()
	given, same := guarded(a, mark)
	if v, e := poly.At(p, given, x); v != want || e != wrong {
		t.Errorf("At(%d, %v, %d) = %d, %d; want %d, %d", p, a, x, v, e, want, wrong)
	}
	if !same() {
		t.Errorf("At(%d, %v, %d) changed what was given", p, a, x)
	}
}

func checkThrough(t *testing.T, p int64, l []api.Point, want []int64, wrong api.Errno) {
	t.Helper()
	given, same := guarded(l, api.Point{X: mark, Y: mark})
	a, e := poly.Through(p, given)
	if !slices.Equal(a, want) || e != wrong {
		t.Errorf("Through(%d, %v) = %v, %d; want %v, %d", p, l, a, e, want, wrong)
	}
	if !same() {
		t.Errorf("Through(%d, %v) changed what was given", p, l)
	}
}

// checkAll asks every call that takes two polynomials for one error.
func checkAll(t *testing.T, p int64, a, b []int64, wrong api.Errno) {
	t.Helper()
	checkCall(t, "Add", poly.Add, p, a, b, nil, wrong)
	checkCall(t, "Mul", poly.Mul, p, a, b, nil, wrong)
	checkCall(t, "Gcd", poly.Gcd, p, a, b, nil, wrong)
	checkDivRefused(t, p, a, b, wrong)
}

func checkDivRefused(t *testing.T, p int64, a, b []int64, wrong api.Errno) {
	t.Helper()
	if q, r, e := poly.Div(p, a, b); len(q) != 0 || len(r) != 0 || e != wrong {
		t.Errorf("Div(%d, %v, %v) = %v, %v, %d; want none, none, %d", p, a, b, q, r, e, wrong)
	}
}

func TestJ1Primes(t *testing.T) {
	for p := int64(-300); p <= 600; p++ {
		want := api.OK
		if p < 2 || p > 251 {
			want = api.ErrRange
		} else if !isPrime(p) {
			want = api.ErrArg
		}
		checkCheck(t, p, nil, want)
		checkCheck(t, p, []int64{}, want)
		checkCheck(t, p, []int64{1}, want)
		checkThrough(t, p, nil, nil, want)
	}
	for _, p := range farPrimes {
		checkCheck(t, p, []int64{1}, api.ErrRange)
	}
}

func TestJ1Forms(t *testing.T) {
	for _, p := range allPrimes() {
		for n := -p - 2; n <= 2*p+2; n++ {
			inside := n >= 0 && n < p
			want, wantLast := api.ErrForm, api.ErrForm
			if inside {
				want = api.OK
			}
			if inside && n != 0 {
				wantLast = api.OK
			}
			checkCheck(t, p, []int64{n}, wantLast)
			checkCheck(t, p, []int64{0, 1, n}, wantLast)
			checkCheck(t, p, []int64{n, 1}, want)
			checkCheck(t, p, []int64{0, n, 1}, want)
		}
	}
	for _, a := range wrongForms() {
		checkCheck(t, 7, a, api.ErrForm)
	}
}

func TestJ1Lengths(t *testing.T) {
	for n := range longest + 1 {
		checkCheck(t, 7, slices.Repeat([]int64{6}, n), api.OK)
		checkCheck(t, 251, slices.Repeat([]int64{250}, n), api.OK)
		checkCheck(t, 2, append(make([]int64, max(n-1, 0)), 1), api.OK)
	}
	for _, a := range tooLong() {
		checkCheck(t, 7, a, api.ErrLarge)
	}
}

// What is named first is told: p's range, p's being a prime, the length, the form.
func TestJ1Order(t *testing.T) {
	for _, a := range append(tooLong(), wrongForms()...) {
		for _, p := range farPrimes {
			checkCheck(t, p, a, api.ErrRange)
		}
		for _, p := range noPrimes {
			checkCheck(t, p, a, api.ErrArg)
		}
	}
}

// The other calls tell a's errors, then b's; and behind them what is theirs alone.
func TestJ1OtherCalls(t *testing.T) {
	good := []int64{1, 2, 3}
	bad := append(tooLong(), wrongForms()...)
	for _, a := range append(bad, nil, good) {
		for _, b := range append(bad, nil, good) {
			for _, p := range farPrimes {
				checkAll(t, p, a, b, api.ErrRange)
			}
			for _, p := range noPrimes {
				checkAll(t, p, a, b, api.ErrArg)
			}
		}
	}
	for _, long := range tooLong() {
		checkAll(t, 7, long, good, api.ErrLarge)
		checkAll(t, 7, long, nil, api.ErrLarge)
		checkAll(t, 7, nil, long, api.ErrLarge)
		for _, form := range wrongForms() {
			checkAll(t, 7, long, form, api.ErrLarge)
			checkAll(t, 7, form, long, api.ErrForm)
		}
	}
	for _, form := range wrongForms() {
		checkAll(t, 7, form, good, api.ErrForm)
		checkAll(t, 7, form, nil, api.ErrForm)
		checkAll(t, 7, good, form, api.ErrForm)
		checkAll(t, 7, nil, form, api.ErrForm)
	}
}

func TestJ2Named(t *testing.T) {
	checkAdd(t, 7, []int64{1, 2, 3}, []int64{6, 5, 4}, nil)
	checkAdd(t, 7, []int64{1, 2, 3}, []int64{6, 5, 5}, []int64{0, 0, 1})
	checkAdd(t, 7, []int64{3, 2, 3}, []int64{1, 1, 4}, []int64{4, 3})
	checkAdd(t, 7, nil, nil, nil)
	checkAdd(t, 7, []int64{0, 6}, nil, []int64{0, 6})
	checkAdd(t, 7, nil, []int64{0, 6}, []int64{0, 6})
	checkAdd(t, 2, []int64{1, 1}, []int64{1, 1}, nil)
	checkMul(t, 7, []int64{1, 1}, []int64{6, 1}, []int64{6, 0, 1})
	checkMul(t, 2, []int64{1, 1}, []int64{1, 1}, []int64{1, 0, 1})
	checkMul(t, 7, nil, []int64{1, 2}, nil)
	checkMul(t, 7, []int64{1, 2}, nil, nil)
	checkMul(t, 7, nil, nil, nil)
	checkGcd(t, 7, []int64{6, 0, 1}, []int64{6, 1}, []int64{6, 1})
	checkGcd(t, 7, nil, nil, nil)
	checkGcd(t, 7, []int64{3}, nil, []int64{1})
	checkGcd(t, 7, nil, []int64{1, 3}, []int64{5, 1})
	checkGcd(t, 7, []int64{1, 3}, nil, []int64{5, 1})
	checkGcd(t, 7, []int64{2, 1}, []int64{3, 1}, []int64{1})
	checkGcd(t, 7, []int64{4}, []int64{2}, []int64{1})
	q, r, e := poly.Div(7, []int64{1, 0, 1}, []int64{1, 1})
	if !slices.Equal(q, []int64{6, 1}) || !slices.Equal(r, []int64{2}) || e != api.OK {
		t.Error("Div", q, r, e)
	}
}

func TestJ2DivByNone(t *testing.T) {
	for _, p := range allPrimes() {
		for _, a := range [][]int64{nil, {}, {1}, {0, 1}, slices.Repeat([]int64{1}, longest)} {
			checkDivRefused(t, p, a, nil, api.ErrArg)
			checkDivRefused(t, p, a, []int64{}, api.ErrArg)
		}
	}
}

func TestJ2AllSmall(t *testing.T) {
	for p, count := range map[int64]int{2: 6, 3: 4, 5: 3, 7: 2} {
		all := polynomials(p, count)
		for _, a := range all {
			for _, b := range all {
				checkAdd(t, p, a, b, wantSum(p, a, b))
				checkMul(t, p, a, b, wantProduct(p, a, b))
				if len(b) > 0 {
					checkDiv(t, p, a, b)
				}
			}
		}
	}
}

// common answers what finds the Gcd of two of all: every product is made, so that what divides what is known without dividing.
func common(p int64, all [][]int64) func(a, b []int64) []int64 {
	const many = 64
	code := func(a []int64) [many]int64 {
		var k [many]int64
		copy(k[:], a)
		k[many-1] = int64(len(a))
		return k
	}
	divisors := map[[many]int64][][]int64{}
	for _, d := range all {
		if len(d) == 0 || d[len(d)-1] != 1 {
			continue
		}
		for _, m := range all {
			k := code(wantProduct(p, d, m))
			divisors[k] = append(divisors[k], d)
		}
	}
	return func(a, b []int64) []int64 {
		var best []int64
		for _, d := range divisors[code(a)] {
			among := func(o []int64) bool { return slices.Equal(o, d) }
			if len(d) > len(best) && slices.ContainsFunc(divisors[code(b)], among) {
				best = d
			}
		}
		return best
	}
}

func TestJ2GcdAllSmall(t *testing.T) {
	for p, count := range map[int64]int{2: 5, 3: 4, 5: 3} {
		all := polynomials(p, count)
		want := common(p, all)
		for _, a := range all {
			for _, b := range all {
				// Of none every polynomial is a divisor: what divides both is what divides the other one.
				if len(a) == 0 && len(b) == 0 {
					checkGcd(t, p, a, b, nil)
				} else {
					checkGcd(t, p, a, b, want(a, b))
				}
			}
		}
	}
}

// fromRoots answers the product of k and of x less each root.
func fromRoots(p, k int64, roots []int64) []int64 {
	a := []int64{k}
	for _, x := range roots {
		a = wantProduct(p, a, []int64{left(-x, p), 1})
	}
	return a
}

// inBoth answers the roots that both have, each as often as both have it.
func inBoth(a, b []int64) []int64 {
	var list []int64
	rest := slices.Clone(b)
	for _, x := range a {
		if at := slices.Index(rest, x); at >= 0 {
			list = append(list, x)
			rest = slices.Delete(rest, at, at+1)
		}
	}
	return list
}

func TestJ2GcdByRoots(t *testing.T) {
	r := rand.New(rand.NewSource(10))
	drawRoots := func(p int64) []int64 {
		roots := make([]int64, r.Intn(longest))
		for i := range roots {
			roots[i] = r.Int63n(min(p, 5))
		}
		return roots
	}
	for _, p := range allPrimes() {
		for range 60 {
			a, b := drawRoots(p), drawRoots(p)
			first, second := fromRoots(p, 1+r.Int63n(p-1), a), fromRoots(p, 1+r.Int63n(p-1), b)
			checkGcd(t, p, first, second, fromRoots(p, 1, inBoth(a, b)))
			checkGcd(t, p, first, nil, fromRoots(p, 1, a))
			checkGcd(t, p, nil, second, fromRoots(p, 1, b))
		}
	}
}

func TestJ2Drawn(t *testing.T) {
	r := rand.New(rand.NewSource(11))
	for _, p := range allPrimes() {
		for n := range longest + 1 {
			for m := range longest + 1 {
				a, b := draw(r, p, n), draw(r, p, m)
				checkAdd(t, p, a, b, wantSum(p, a, b))
				checkMul(t, p, a, b, wantProduct(p, a, b))
				if m > 0 {
					checkDiv(t, p, a, b)
				}
				x := r.Int63n(2*most+1) - most
				checkAt(t, p, a, x, wantValue(p, a, x), api.OK)
			}
		}
	}
}

// What a division leaves may be none, and far shorter than what was divided by.
func TestJ2DivShortRests(t *testing.T) {
	r := rand.New(rand.NewSource(12))
	for _, p := range allPrimes() {
		for range 100 {
			b := draw(r, p, 1+r.Intn(7))
			rest := draw(r, p, r.Intn(len(b)))
			a := wantSum(p, wantProduct(p, draw(r, p, 1+r.Intn(7)), b), rest)
			checkDiv(t, p, a, b)
			if _, got, _ := poly.Div(p, a, b); !slices.Equal(got, rest) {
				t.Errorf("Div(%d, %v, %v) leaves %v; want %v", p, a, b, got, rest)
			}
		}
	}
}

// A product may have more than MaxDeg + 1 numbers, and all of them may be as great as can be.
func TestJ2Greatest(t *testing.T) {
	for _, p := range allPrimes() {
		a := slices.Repeat([]int64{p - 1}, longest)
		square := wantProduct(p, a, a)
		if len(square) != 2*api.MaxDeg+1 {
			t.Fatal(len(square))
		}
		checkMul(t, p, a, a, square)
		checkAdd(t, p, a, a, wantSum(p, a, a))
		checkDiv(t, p, a, a)
		checkDiv(t, p, a, []int64{p - 1})
		checkGcd(t, p, a, a, slices.Repeat([]int64{1}, longest))
	}
}

// One list may be handed in twice.
func TestJ2Same(t *testing.T) {
	a := []int64{3, 0, 5}
	for range 3 {
		s, _ := poly.Add(7, a, a)
		m, _ := poly.Mul(7, a, a)
		q, r, _ := poly.Div(7, a, a)
		g, _ := poly.Gcd(7, a, a)
		if !slices.Equal(s, []int64{6, 0, 3}) || !slices.Equal(m, []int64{2, 0, 2, 0, 4}) || !slices.Equal(q, []int64{1}) || len(r) != 0 || !slices.Equal(g, []int64{2, 0, 1}) {
			t.Error(s, m, q, r, g)
		}
		spoil(s, m, q, r, g)
	}
	if !slices.Equal(a, []int64{3, 0, 5}) {
		t.Error(a)
	}
}

func TestJ2At(t *testing.T) {
	checkAt(t, 7, nil, 5, 0, api.OK)
	checkAt(t, 7, []int64{3}, 0, 3, api.OK)
	checkAt(t, 7, []int64{3, 0, 1}, -1, 4, api.OK)
	checkAt(t, 7, []int64{0, 1}, -1, 6, api.OK)
	checkAt(t, 7, []int64{0, 1}, 7, 0, api.OK)
	for _, p := range allPrimes() {
		a := slices.Repeat([]int64{p - 1}, longest)
		for _, x := range []int64{-most, -most + 1, -p - 1, -p, 1 - p, -1, 0, 1, p - 1, p, p + 1, most - 1, most} {
			for n := range longest + 1 {
				checkAt(t, p, a[:n], x, wantValue(p, a[:n], x), api.OK)
			}
		}
	}
}

// ErrRange of x is told behind all that is wrong with a.
func TestJ2AtTooFar(t *testing.T) {
	for _, x := range append(farPlaces, 0, most, -most) {
		for _, a := range append(append(tooLong(), wrongForms()...), nil, []int64{1}) {
			for _, p := range farPrimes {
				checkAt(t, p, a, x, 0, api.ErrRange)
			}
			for _, p := range noPrimes {
				checkAt(t, p, a, x, 0, api.ErrArg)
			}
		}
		for _, a := range tooLong() {
			checkAt(t, 7, a, x, 0, api.ErrLarge)
		}
		for _, a := range wrongForms() {
			checkAt(t, 7, a, x, 0, api.ErrForm)
		}
	}
	for _, x := range farPlaces {
		checkAt(t, 7, nil, x, 0, api.ErrRange)
		checkAt(t, 7, []int64{1, 2, 3}, x, 0, api.ErrRange)
		checkAt(t, 251, []int64{5}, x, 0, api.ErrRange)
	}
}

func TestJ3Named(t *testing.T) {
	checkThrough(t, 7, []api.Point{{X: 1, Y: 2}, {X: 3, Y: 6}}, []int64{0, 2}, api.OK)
	checkThrough(t, 7, []api.Point{{X: 3, Y: 6}, {X: 1, Y: 2}}, []int64{0, 2}, api.OK)
	checkThrough(t, 7, []api.Point{{X: 0, Y: 0}, {X: 1, Y: 1}, {X: 2, Y: 4}}, []int64{0, 0, 1}, api.OK)
	checkThrough(t, 7, []api.Point{{X: 5, Y: 3}}, []int64{3}, api.OK)
	checkThrough(t, 7, []api.Point{{X: 5, Y: 0}}, nil, api.OK)
	checkThrough(t, 7, []api.Point{{X: 5, Y: 0}, {X: 0, Y: 0}, {X: 6, Y: 0}}, nil, api.OK)
	checkThrough(t, 7, []api.Point{{X: 5, Y: 4}, {X: 0, Y: 4}, {X: 6, Y: 4}}, []int64{4}, api.OK)
	checkThrough(t, 2, []api.Point{{X: 0, Y: 1}, {X: 1, Y: 0}}, []int64{1, 1}, api.OK)
	checkThrough(t, 7, nil, nil, api.OK)
	checkThrough(t, 7, []api.Point{}, nil, api.OK)
}

// points answers what a is at each of the places.
func points(p int64, a, places []int64) []api.Point {
	var l []api.Point
	for _, x := range places {
		l = append(l, api.Point{X: x, Y: wantValue(p, a, x)})
	}
	return l
}

// Of each choice of places and each polynomial that is short enough, the points lead back to it: there is no other one.
func TestJ3AllSmall(t *testing.T) {
	for _, p := range []int64{2, 3, 5} {
		for choice := range int64(1) << p {
			var places []int64
			for x := range p {
				if choice>>x&1 == 1 {
					places = append(places, x)
				}
			}
			for _, a := range polynomials(p, len(places)) {
				checkThrough(t, p, points(p, a, places), a, api.OK)
				slices.Reverse(places)
			}
		}
	}
}

func TestJ3Drawn(t *testing.T) {
	r := rand.New(rand.NewSource(13))
	for _, p := range allPrimes() {
		for n := range min(longest, int(p)) + 1 {
			for range 10 {
				var places []int64
				for _, x := range r.Perm(int(p))[:n] {
					places = append(places, int64(x))
				}
				a := draw(r, p, r.Intn(n+1))
				checkThrough(t, p, points(p, a, places), a, api.OK)
				whole := draw(r, p, n)
				checkThrough(t, p, points(p, whole, places), whole, api.OK)
			}
		}
	}
}

// Any numbers Y are met, by as many numbers as there are points at the most.
func TestJ3AnyNumbers(t *testing.T) {
	r := rand.New(rand.NewSource(14))
	for _, p := range allPrimes() {
		for range 40 {
			var l []api.Point
			for _, x := range r.Perm(int(p))[:min(longest, int(p))] {
				l = append(l, api.Point{X: int64(x), Y: r.Int63n(p)})
			}
			a, e := poly.Through(p, l)
			if e != api.OK || !isPolynomial(p, a) || len(a) > len(l) {
				t.Errorf("Through(%d, %v) = %v, %d", p, l, a, e)
			}
			for _, q := range l {
				if wantValue(p, a, q.X) != q.Y {
					t.Errorf("Through(%d, %v) = %v, which misses %v", p, l, a, q)
				}
			}
		}
	}
}

// farPoints: what is no point by 7.
func farPoints() []api.Point {
	var list []api.Point
	for _, n := range []int64{-1, -7, 7, 8, 1<<32 + 1, math.MaxInt64, math.MinInt64} {
		list = append(list, api.Point{X: n, Y: 1}, api.Point{X: 1, Y: n}, api.Point{X: n, Y: n})
	}
	return list
}

func TestJ3Refused(t *testing.T) {
	many := make([]api.Point, longest+1)
	for i := range many {
		many[i] = api.Point{X: int64(i), Y: 1}
	}
	checkThrough(t, 251, many, nil, api.ErrLarge)
	checkThrough(t, 251, many[:longest], []int64{1}, api.OK)
	checkThrough(t, 7, many, nil, api.ErrLarge)
	checkThrough(t, 7, many[:longest], nil, api.ErrRange)
	checkThrough(t, 7, make([]api.Point, longest+1), nil, api.ErrLarge)
	checkThrough(t, 7, make([]api.Point, longest), nil, api.ErrForm)
	checkThrough(t, 7, slices.Repeat(farPoints(), 9), nil, api.ErrLarge)
	for _, far := range farPoints() {
		for _, l := range [][]api.Point{{far}, {far, {X: 2, Y: 2}}, {{X: 2, Y: 2}, far}, {far, far}, {{X: 2, Y: 2}, {X: 2, Y: 3}, far}, {far, {X: 2, Y: 2}, {X: 2, Y: 2}}} {
			checkThrough(t, 7, l, nil, api.ErrRange)
		}
	}
	for _, l := range [][]api.Point{nil, {{X: 0, Y: 0}}, {{X: 1, Y: 0}, {X: 1, Y: 1}}, farPoints(), many, make([]api.Point, 5000)} {
		for _, p := range farPrimes {
			checkThrough(t, p, l, nil, api.ErrRange)
		}
		for _, p := range noPrimes {
			checkThrough(t, p, l, nil, api.ErrArg)
		}
	}
}

// Two points with one X are told wherever they stand, and also where they are one and the same.
func TestJ3SamePlace(t *testing.T) {
	for _, p := range []int64{2, 3, 13, 251} {
		n := min(longest, int(p))
		for i := range n {
			for j := range i {
				l := make([]api.Point, n)
				for k := range l {
					l[k] = api.Point{X: int64(k), Y: int64(k) % p}
				}
				l[i].X = l[j].X
				checkThrough(t, p, l, nil, api.ErrForm)
				l[i].Y = l[j].Y
				checkThrough(t, p, l, nil, api.ErrForm)
			}
		}
	}
}

// What comes out is new memory each time, and hangs on nothing but what was given.
func TestJ3AgainAndAgain(t *testing.T) {
	l := []api.Point{{X: 1, Y: 2}, {X: 3, Y: 6}, {X: 4, Y: 4}}
	first, _ := poly.Through(7, l)
	want := slices.Clone(first)
	for range 100 {
		a, e := poly.Through(7, l)
		if !slices.Equal(a, want) || e != api.OK {
			t.Fatal(a, e)
		}
		spoil(a)
	}
	if !slices.Equal(first, want) {
		t.Error(first)
	}
}
