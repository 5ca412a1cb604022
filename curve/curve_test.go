package curve_test

import (
	"math"
	"math/rand"
	"testing"

	"lockwright/api"
	"lockwright/curve"
)

const most = int64(api.MaxNum)

// example is the document's curve.
var example = api.Curve{P: 5, A: 1, B: 1}

var farSpot = api.Spot{Far: true}

// farPrimes: what no call takes as P, just beyond the limits and as far out as can be; there are primes among them.
var farPrimes = []int64{4, 3, 2, 1, 0, -1, -2, -3, -5, -7, -1009, 1010, 1011, 1013, 1019, 4093, 65537, most, 1<<32 + 5, 1<<32 + 7, 1<<32 + 15, math.MaxInt64, math.MaxInt64 - 24, math.MinInt64, math.MinInt64 + 1}

// noPrimes: what is in range, and no prime.
var noPrimes = []int64{6, 8, 9, 10, 15, 21, 25, 27, 49, 64, 121, 341, 561, 961, 1000, 1001, 1003, 1007, 1008}

// far: what is no rest by any P, and what might be if it wrapped round.
var far = []int64{-1, -2, -4, -5, -1009, 1009, 1010, most, 1 << 32, 1<<32 + 1, 1<<32 + 4, 1 << 62, 1 << 63 / 3, math.MaxInt64, math.MinInt64, math.MinInt64 + 1}

func isPrime(n int64) bool {
	for d := int64(2); d*d <= n; d++ {
		if n%d == 0 {
			return false
		}
	}
	return n > 1
}

func primesTo(n int64) []int64 {
	var list []int64
	for p := int64(5); p <= n; p++ {
		if isPrime(p) {
			list = append(list, p)
		}
	}
	return list
}

func wantCheck(c api.Curve) api.Errno {
	if c.P < 5 || c.P > 1009 || c.A < 0 || c.A > c.P-1 || c.B < 0 || c.B > c.P-1 {
		return api.ErrRange
	}
	if !isPrime(c.P) || (4*c.A*c.A*c.A+27*c.B*c.B)%c.P == 0 {
		return api.ErrArg
	}
	return api.OK
}

// curvesOf answers all curves by p.
func curvesOf(p int64) []api.Curve {
	var list []api.Curve
	for a := range p {
		for b := range p {
			if c := (api.Curve{P: p, A: a, B: b}); wantCheck(c) == api.OK {
				list = append(list, c)
			}
		}
	}
	return list
}

// drawn answers a curve by p.
func drawn(r *rand.Rand, p int64) api.Curve {
	for {
		if c := (api.Curve{P: p, A: r.Int63n(p), B: r.Int63n(p)}); wantCheck(c) == api.OK {
			return c
		}
	}
}

// lies tells whether X and Y are those of a spot.
func lies(c api.Curve, x, y int64) bool {
	return y*y%c.P == (x*x*x+c.A*x+c.B)%c.P
}

// spots answers all of them, the Far one first.
func spots(c api.Curve) []api.Spot {
	list := []api.Spot{farSpot}
	for x := range c.P {
		for y := range c.P {
			if lies(c, x, y) {
				list = append(list, api.Spot{X: x, Y: y})
			}
		}
	}
	return list
}

// wantNeg finds the Y that together with that of s leaves 0.
func wantNeg(c api.Curve, s api.Spot) api.Spot {
	if s.Far {
		return s
	}
	for y := range c.P {
		if (y+s.Y)%c.P == 0 {
			return api.Spot{X: s.X, Y: y}
		}
	}
	return api.Spot{}
}

// wantSlope finds the k that times the divisor leaves what is divided.
func wantSlope(c api.Curve, s, t api.Spot) int64 {
	over, under := t.Y-s.Y, t.X-s.X
	if s == t {
		over, under = 3*s.X*s.X+c.A, 2*s.Y
	}
	for k := range c.P {
		if (k*under-over)%c.P == 0 {
			return k
		}
	}
	return -1
}

// wantAdd goes through Y2's words.
func wantAdd(c api.Curve, s, t api.Spot) api.Spot {
	if s.Far {
		return t
	}
	if t.Far {
		return s
	}
	if t == wantNeg(c, s) {
		return farSpot
	}
	k := wantSlope(c, s, t)
	x := ((k*k-s.X-t.X)%c.P + c.P) % c.P
	y := ((k*(s.X-x)-s.Y)%c.P + c.P) % c.P
	return api.Spot{X: x, Y: y}
}

// calls answers what each call but Check answers of the curve, the spots and k: the errors, and whether all else is zero.
func calls(c api.Curve, s, t api.Spot, k int64) ([4]api.Errno, [4]bool) {
	zero := api.Spot{}
	sum, wrongAdd := curve.Add(c, s, t)
	neg, wrongNeg := curve.Neg(c, s)
	product, wrongTimes := curve.Times(c, k, s)
	count, wrongCount := curve.Count(c)
	return [4]api.Errno{wrongAdd, wrongNeg, wrongTimes, wrongCount}, [4]bool{sum == zero, neg == zero, product == zero, count == 0}
}

// wantErrors asks all calls for their errors, with nothing beside them.
func wantErrors(t *testing.T, c api.Curve, s api.Spot, k int64, want [4]api.Errno) {
	t.Helper()
	got, zero := calls(c, s, s, k)
	if got != want {
		t.Fatalf("%v %v %d: %v, not %v", c, s, k, got, want)
	}
	for i, wrong := range want {
		if wrong != api.OK && !zero[i] {
			t.Fatalf("%v %v %d: call %d answers something beside its error", c, s, k, i)
		}
	}
}

// all answers an error for each call.
func all(wrong api.Errno) [4]api.Errno { return [4]api.Errno{wrong, wrong, wrong, wrong} }

// ofSpots answers an error for each call that takes a spot; Count takes none.
func ofSpots(wrong api.Errno) [4]api.Errno { return [4]api.Errno{wrong, wrong, wrong, api.OK} }

func TestY1Check(t *testing.T) {
	for _, p := range primesTo(31) {
		for a := int64(-2); a <= p+2; a++ {
			for b := int64(-2); b <= p+2; b++ {
				c := api.Curve{P: p, A: a, B: b}
				if got, want := curve.Check(c), wantCheck(c); got != want {
					t.Fatal(c, got, want)
				}
			}
		}
	}
}

func TestY1CheckOfGreatPrimes(t *testing.T) {
	r := rand.New(rand.NewSource(1))
	for p := int64(4); p <= 1012; p++ {
		for range 40 {
			c := api.Curve{P: p, A: r.Int63n(p + 1), B: r.Int63n(p + 1)}
			if got, want := curve.Check(c), wantCheck(c); got != want {
				t.Fatal(c, got, want)
			}
		}
	}
	for a := range int64(1009) { // of some A there are two B that are no curve's, of others none
		for b := range int64(1009) {
			c := api.Curve{P: 1009, A: a, B: b}
			if got, want := curve.Check(c), wantCheck(c); got != want {
				t.Fatal(c, got, want)
			}
		}
	}
}

func TestY1BoundsOfCurves(t *testing.T) {
	for _, p := range farPrimes {
		c := api.Curve{P: p, A: 1, B: 1}
		if wrong := curve.Check(c); wrong != api.ErrRange {
			t.Error(c, wrong)
		}
		wantErrors(t, c, farSpot, 1, all(api.ErrRange))
	}
	for _, n := range far {
		for _, c := range []api.Curve{{P: 1009, A: n, B: 1}, {P: 1009, A: 1, B: n}, {P: 5, A: n, B: 0}, {P: 5, A: 0, B: n}, {P: 5, A: n, B: n}} {
			if wrong := curve.Check(c); wrong != api.ErrRange {
				t.Error(c, wrong)
			}
			wantErrors(t, c, farSpot, 1, all(api.ErrRange))
		}
	}
	for _, c := range []api.Curve{{P: 5, A: 4, B: 1}, {P: 5, A: 1, B: 4}, {P: 1009, A: 1008, B: 1008}, {P: 1009, A: 0, B: 1}, {P: 1009, A: 1}} {
		if wrong := curve.Check(c); wrong != api.OK {
			t.Error(c, wrong)
		}
		wantErrors(t, c, farSpot, 1, all(api.OK))
	}
}

func TestY1NoCurves(t *testing.T) {
	for _, p := range noPrimes {
		for _, c := range []api.Curve{{P: p, A: 1, B: 1}, {P: p}, {P: p, A: p - 1, B: p - 1}} {
			if wrong := curve.Check(c); wrong != api.ErrArg {
				t.Error(c, wrong)
			}
			wantErrors(t, c, farSpot, 1, all(api.ErrArg))
		}
	}
	// 4 * (-3)^3 and 27 * 2^2 together are 0: so these are no curve's by any prime.
	for _, p := range primesTo(1009) {
		for _, c := range []api.Curve{{P: p}, {P: p, A: p - 3, B: 2}, {P: p, A: p - 3, B: p - 2}} {
			if wrong := curve.Check(c); wrong != api.ErrArg {
				t.Error(c, wrong)
			}
			wantErrors(t, c, farSpot, 1, all(api.ErrArg))
		}
	}
}

func TestY1Spots(t *testing.T) {
	for _, p := range []int64{5, 7, 11, 13} {
		for _, c := range curvesOf(p) {
			for x := int64(-2); x <= p+2; x++ {
				for y := int64(-2); y <= p+2; y++ {
					want := api.ErrForm
					if x >= 0 && x < p && y >= 0 && y < p && lies(c, x, y) {
						want = api.OK
					}
					wantErrors(t, c, api.Spot{X: x, Y: y}, 3, ofSpots(want))
				}
			}
		}
	}
}

func TestY1FarSpots(t *testing.T) {
	for _, c := range curvesOf(7) {
		for x := int64(-1); x <= 8; x++ {
			for y := int64(-1); y <= 8; y++ {
				want := api.ErrForm
				if x == 0 && y == 0 {
					want = api.OK
				}
				wantErrors(t, c, api.Spot{X: x, Y: y, Far: true}, 3, ofSpots(want))
			}
		}
	}
}

func TestY1SpotsOutOfBounds(t *testing.T) {
	for _, c := range []api.Curve{example, {P: 5, A: 1}, {P: 1009, A: 1}, {P: 1009, A: 1008, B: 4}} {
		good := spots(c)
		for _, n := range append([]int64{c.P}, far...) {
			if n >= 0 && n < c.P {
				continue
			}
			for _, s := range good[:4] {
				for _, no := range []api.Spot{{X: n, Y: s.Y}, {X: s.X, Y: n}, {X: n, Y: n}, {X: n, Far: true}, {Y: n, Far: true}, {X: s.X + c.P, Y: s.Y}, {X: s.X, Y: s.Y + c.P}, {X: s.X - c.P, Y: s.Y}, {X: s.X, Y: s.Y - c.P}} {
					wantErrors(t, c, no, 3, ofSpots(api.ErrForm))
				}
			}
		}
	}
}

func TestY1EachSpotOfAddIsAsked(t *testing.T) {
	for _, c := range append(curvesOf(11), example) {
		for _, s := range spots(c) {
			no := api.Spot{X: s.X, Y: (s.Y + 1) % c.P}
			if lies(c, no.X, no.Y) {
				continue
			}
			for _, pair := range [][2]api.Spot{{s, no}, {no, s}, {farSpot, no}, {no, farSpot}, {no, no}} {
				if sum, wrong := curve.Add(c, pair[0], pair[1]); sum != (api.Spot{}) || wrong != api.ErrForm {
					t.Fatal(c, pair, sum, wrong)
				}
			}
		}
	}
}

func TestY1OrderOfErrors(t *testing.T) {
	no := api.Spot{X: 1, Y: 1}
	wantErrors(t, api.Curve{P: 1010, A: 0, B: 0}, no, -1, all(api.ErrRange))
	wantErrors(t, api.Curve{P: 9, A: 9, B: 0}, no, -1, all(api.ErrRange))
	wantErrors(t, api.Curve{P: 9, A: 0, B: -1}, no, -1, all(api.ErrRange))
	wantErrors(t, api.Curve{P: 9, A: 0, B: 0}, no, -1, all(api.ErrArg))
	wantErrors(t, api.Curve{P: 5, A: 0, B: 0}, no, -1, all(api.ErrArg))
	wantErrors(t, example, no, -1, ofSpots(api.ErrForm))
	wantErrors(t, example, api.Spot{X: 1, Far: true}, most+1, ofSpots(api.ErrForm))
	wantErrors(t, example, farSpot, -1, [4]api.Errno{2: api.ErrRange})
}

func TestY2Example(t *testing.T) {
	if n, wrong := curve.Count(example); n != 9 || wrong != api.OK {
		t.Error(n, wrong)
	}
	first := api.Spot{X: 0, Y: 1}
	for k, want := range []api.Spot{farSpot, first, {X: 4, Y: 2}, {X: 2, Y: 1}, {X: 3, Y: 4}, {X: 3, Y: 1}, {X: 2, Y: 4}, {X: 4, Y: 3}, {X: 0, Y: 4}, farSpot, first} {
		if got, wrong := curve.Times(example, int64(k), first); got != want || wrong != api.OK {
			t.Error(k, got, wrong)
		}
	}
	if got, wrong := curve.Add(example, first, first); got != (api.Spot{X: 4, Y: 2}) || wrong != api.OK {
		t.Error(got, wrong)
	}
	if got, wrong := curve.Neg(example, first); got != (api.Spot{X: 0, Y: 4}) || wrong != api.OK {
		t.Error(got, wrong)
	}
}

// wantSums asks the sum of s and t, and whether that is a spot.
func wantSums(t *testing.T, c api.Curve, s, u api.Spot) {
	t.Helper()
	want := wantAdd(c, s, u)
	if got, wrong := curve.Add(c, s, u); got != want || wrong != api.OK {
		t.Fatal(c, s, u, got, want, wrong)
	}
	if !want.Far && !lies(c, want.X, want.Y) {
		t.Fatal(c, s, u, want, "is no spot")
	}
}

func TestY2Add(t *testing.T) {
	for _, p := range []int64{5, 7, 11, 13} {
		for _, c := range curvesOf(p) {
			list := spots(c)
			for _, s := range list {
				for _, u := range list {
					wantSums(t, c, s, u)
				}
			}
		}
	}
}

func TestY2AddByGreatPrimes(t *testing.T) {
	r := rand.New(rand.NewSource(2))
	for _, p := range primesTo(1009) {
		c := drawn(r, p)
		list := spots(c)
		for range 20 {
			wantSums(t, c, list[r.Intn(len(list))], list[r.Intn(len(list))])
		}
		s := list[r.Intn(len(list))]
		wantSums(t, c, s, s)
		wantSums(t, c, s, wantNeg(c, s))
		wantSums(t, c, s, farSpot)
		wantSums(t, c, farSpot, s)
	}
}

func TestY2Neg(t *testing.T) {
	for _, p := range []int64{5, 7, 11, 13, 17, 1009} {
		list := curvesOf(min(p, 17))
		if p == 1009 {
			list = []api.Curve{{P: p, A: 1008}, {P: p, A: 1}, {P: p, A: 3, B: 5}}
		}
		for _, c := range list {
			for _, s := range spots(c) {
				want := wantNeg(c, s)
				if got, wrong := curve.Neg(c, s); got != want || wrong != api.OK {
					t.Fatal(c, s, got, want, wrong)
				}
				if sum, wrong := curve.Add(c, s, want); sum != farSpot || wrong != api.OK {
					t.Fatal(c, s, sum, wrong)
				}
			}
		}
	}
}

// What has no Y but 0 is its own Neg: so twice it is the Far one.
func TestY2SpotsOfTheirOwnNeg(t *testing.T) {
	c := api.Curve{P: 5, A: 4} // X^3 - X is 0 at 0, 1 and 4
	for _, x := range []int64{0, 1, 4} {
		s := api.Spot{X: x}
		if got, wrong := curve.Neg(c, s); got != s || wrong != api.OK {
			t.Error(s, got, wrong)
		}
		if got, wrong := curve.Add(c, s, s); got != farSpot || wrong != api.OK {
			t.Error(s, got, wrong)
		}
		if got, wrong := curve.Times(c, most, s); got != farSpot || wrong != api.OK {
			t.Error(s, got, wrong)
		}
		if got, wrong := curve.Times(c, most-1, s); got != s || wrong != api.OK {
			t.Error(s, got, wrong)
		}
	}
}

func TestY2Times(t *testing.T) {
	for _, p := range []int64{5, 7, 11} {
		for _, c := range curvesOf(p) {
			for _, s := range spots(c) {
				sum := farSpot
				for k := range int64(40) {
					if got, wrong := curve.Times(c, k, s); got != sum || wrong != api.OK {
						t.Fatal(c, k, s, got, sum, wrong)
					}
					sum = wantAdd(c, sum, s)
				}
			}
		}
	}
}

// round answers k of s added, from the Far one on, for all k until it comes round.
func round(c api.Curve, s api.Spot) []api.Spot {
	list := []api.Spot{farSpot}
	for sum := s; !sum.Far; sum = wantAdd(c, sum, s) {
		list = append(list, sum)
	}
	return list
}

func TestY2TimesByGreatNumbers(t *testing.T) {
	r := rand.New(rand.NewSource(3))
	for _, p := range []int64{5, 13, 101, 499, 997, 1009} {
		for range 5 {
			c := drawn(r, p)
			list := spots(c)
			s := list[r.Intn(len(list))]
			sums := round(c, s)
			ks := []int64{0, 1, 2, most, most - 1, most - 2, most/2 + 1, most / 2, most/2 - 1, int64(len(sums)), int64(len(list))}
			for range 30 {
				ks = append(ks, r.Int63n(most+1))
			}
			for _, k := range ks {
				want := sums[k%int64(len(sums))]
				if got, wrong := curve.Times(c, k, s); got != want || wrong != api.OK {
					t.Fatal(c, k, s, got, want, wrong)
				}
			}
		}
	}
}

func TestY2TimesOutOfBounds(t *testing.T) {
	for _, k := range []int64{-1, -2, -9, -most, most + 1, most + 2, 1 << 32, 1<<32 + 1, 1 << 62, math.MaxInt64, math.MinInt64, math.MinInt64 + 1} {
		for _, s := range []api.Spot{farSpot, {X: 0, Y: 1}, {X: 4, Y: 2}} {
			wantErrors(t, example, s, k, [4]api.Errno{2: api.ErrRange})
		}
	}
	for _, k := range []int64{0, 1, most} {
		wantErrors(t, example, farSpot, k, all(api.OK))
	}
}

func TestY2Count(t *testing.T) {
	for _, p := range primesTo(37) {
		for _, c := range curvesOf(p) {
			want := int64(len(spots(c)))
			if got, wrong := curve.Count(c); got != want || wrong != api.OK {
				t.Fatal(c, got, want, wrong)
			}
		}
	}
	r := rand.New(rand.NewSource(4))
	for _, p := range primesTo(1009) {
		c := drawn(r, p)
		want := int64(len(spots(c)))
		if got, wrong := curve.Count(c); got != want || wrong != api.OK {
			t.Fatal(c, got, want, wrong)
		}
	}
}

// As many of each spot as there are spots lead back to the Far one, and sums hang neither on order nor on brackets.
func TestY2SumsAreAGroup(t *testing.T) {
	r := rand.New(rand.NewSource(5))
	add := func(c api.Curve, s, u api.Spot) api.Spot {
		sum, wrong := curve.Add(c, s, u)
		if wrong != api.OK {
			t.Fatal(c, s, u, wrong)
		}
		return sum
	}
	for _, p := range primesTo(1009) {
		c := drawn(r, p)
		list := spots(c)
		count, _ := curve.Count(c)
		for range 10 {
			s, u, v := list[r.Intn(len(list))], list[r.Intn(len(list))], list[r.Intn(len(list))]
			if add(c, s, u) != add(c, u, s) || add(c, add(c, s, u), v) != add(c, s, add(c, u, v)) {
				t.Fatal(c, s, u, v)
			}
			if back, wrong := curve.Times(c, count, s); back != farSpot || wrong != api.OK {
				t.Fatal(c, s, count, back, wrong)
			}
		}
	}
}
