package share_test

import (
	"math"
	"math/rand"
	"slices"
	"testing"

	"lockwright/api"
	"lockwright/share"
)

// mark stands behind the lists that are handed in.
const mark = int64(-77)

// farPrimes: what no call takes as p, just beyond the limits and as far out as can be; there are primes among them.
var farPrimes = []int64{1, 0, -1, -2, -3, -7, -251, 252, 253, 257, 263, 4093, 65537, 1<<32 + 7, 1<<32 + 15, math.MaxInt64, math.MinInt64, math.MinInt64 + 1}

// noPrimes: what is in range, and no prime.
var noPrimes = []int64{4, 6, 8, 9, 15, 25, 49, 64, 91, 121, 169, 221, 249, 250}

// farNumbers: what is out of bounds by 7.
var farNumbers = []int64{-1, -2, -7, -8, 7, 8, 14, 1<<32 + 1, 1 << 40, math.MaxInt64, math.MinInt64}

func allPrimes() []int64 {
	var list []int64
	for p := int64(2); p <= api.MaxPrime; p++ {
		if isPrime(p) {
			list = append(list, p)
		}
	}
	return list
}

func isPrime(n int64) bool {
	for d := int64(2); d < n; d++ {
		if n%d == 0 {
			return false
		}
	}
	return n > 1
}

// wantShare adds the secret and each number of more, times x as often as it stands behind the secret.
func wantShare(p, secret int64, more []int64, x int64) api.Point {
	sum, power := secret, int64(1)
	for _, n := range more {
		power = power * x % p
		sum = (sum + n*power) % p
	}
	return api.Point{X: x, Y: sum}
}

func wantShares(p, secret int64, more []int64, n int64) []api.Point {
	var list []api.Point
	for x := int64(1); x <= n; x++ {
		list = append(list, wantShare(p, secret, more, x))
	}
	return list
}

// wantJoin weighs each point by what is 1 at its X and 0 at the others, asked at 0; what to divide by is searched for.
func wantJoin(p int64, l []api.Point) int64 {
	sum := int64(0)
	for i, q := range l {
		over, under := int64(1), int64(1)
		for j, o := range l {
			if i != j {
				over = over * (p - o.X) % p
				under = under * (q.X - o.X + p) % p
			}
		}
		weight := int64(0)
		for weight*under%p != over%p {
			weight++
		}
		sum = (sum + q.Y*weight) % p
	}
	return sum
}

// lists answers all lists of count numbers from 0 to p - 1.
func lists(p int64, count int) [][]int64 {
	all := [][]int64{{}}
	for range count {
		var next [][]int64
		for _, a := range all {
			for n := range p {
				next = append(next, append(slices.Clone(a), n))
			}
		}
		all = next
	}
	return all
}

// choices answers all lists of numbers from 1 to p - 1, at most count of them, that rise.
func choices(p int64, count int) [][]int64 {
	all := [][]int64{nil}
	for x := int64(1); x < p; x++ {
		for _, a := range all {
			if len(a) < count {
				all = append(all, append(slices.Clone(a), x))
			}
		}
	}
	return all
}

func draw(r *rand.Rand, p int64, count int) []int64 {
	list := make([]int64, count)
	for i := range list {
		list[i] = r.Int63n(p)
	}
	return list
}

// drawPoints answers count points by p, at different places from 1 on.
func drawPoints(r *rand.Rand, p int64, count int) []api.Point {
	var l []api.Point
	for _, x := range r.Perm(int(p) - 1)[:count] {
		l = append(l, api.Point{X: int64(x) + 1, Y: r.Int63n(p)})
	}
	return l
}

// guarded lays a list into longer memory, and answers it with what asks whether all of that is still as it was.
func guarded[T comparable](l []T, behind T) ([]T, func() bool) {
	memory := slices.Concat(l, slices.Repeat([]T{behind}, api.MaxDeg+3))
	before := slices.Clone(memory)
	return memory[:len(l)], func() bool { return slices.Equal(memory, before) }
}

// checkSplit spoils what came out: it is shared with nothing that was given.
func checkSplit(t *testing.T, p, secret int64, more []int64, n int, want []api.Point, wrong api.Errno) {
	t.Helper()
	given, same := guarded(more, mark)
	l, e := share.Split(p, secret, given, n)
	if !slices.Equal(l, want) || e != wrong {
		t.Errorf("Split(%d, %d, %v, %d) = %v, %d; want %v, %d", p, secret, more, n, l, e, want, wrong)
	}
	clear(l)
	if !same() {
		t.Errorf("Split(%d, %d, %v, %d) changed what was given", p, secret, more, n)
	}
}

func checkJoin(t *testing.T, p int64, l []api.Point, want int64, wrong api.Errno) {
	t.Helper()
	given, same := guarded(l, api.Point{X: mark, Y: mark})
	if s, e := share.Join(p, given); s != want || e != wrong {
		t.Errorf("Join(%d, %v) = %d, %d; want %d, %d", p, l, s, e, want, wrong)
	}
	if !same() {
		t.Errorf("Join(%d, %v) changed what was given", p, l)
	}
}

func checkExplain(t *testing.T, p int64, l []api.Point, secret int64, want []int64, wrong api.Errno) {
	t.Helper()
	given, same := guarded(l, api.Point{X: mark, Y: mark})
	more, e := share.Explain(p, given, secret)
	if !slices.Equal(more, want) || e != wrong {
		t.Errorf("Explain(%d, %v, %d) = %v, %d; want %v, %d", p, l, secret, more, e, want, wrong)
	}
	clear(more)
	if !same() {
		t.Errorf("Explain(%d, %v, %d) changed what was given", p, l, secret)
	}
}

// checkExplained holds Explain to L3's own words, without another way to find the numbers.
func checkExplained(t *testing.T, p int64, l []api.Point, secret int64) {
	t.Helper()
	more, e := share.Explain(p, l, secret)
	if e != api.OK || len(more) != len(l) {
		t.Errorf("Explain(%d, %v, %d) = %v, %d", p, l, secret, more, e)
		return
	}
	for _, n := range more {
		if n < 0 || n >= p {
			t.Errorf("Explain(%d, %v, %d) = %v", p, l, secret, more)
		}
	}
	shares, e := share.Split(p, secret, more, int(p)-1)
	for _, q := range l {
		if e != api.OK || !slices.Contains(shares, q) || wantShare(p, secret, more, q.X) != q {
			t.Errorf("Explain(%d, %v, %d) = %v, which misses %v", p, l, secret, more, q)
		}
	}
}

// checkPoints asks Join and Explain, of good secrets and bad ones, for one error that is the points'.
func checkPoints(t *testing.T, p int64, l []api.Point, wrong api.Errno) {
	t.Helper()
	checkJoin(t, p, l, 0, wrong)
	for _, secret := range []int64{0, 1, -1, p, math.MaxInt64, math.MinInt64} {
		checkExplain(t, p, l, secret, nil, wrong)
	}
}

func TestL1Named(t *testing.T) {
	checkSplit(t, 7, 3, []int64{2}, 2, []api.Point{{X: 1, Y: 5}, {X: 2, Y: 0}}, api.OK)
	checkSplit(t, 7, 3, []int64{2, 0, 0}, 2, []api.Point{{X: 1, Y: 5}, {X: 2, Y: 0}}, api.OK)
	checkSplit(t, 7, 3, []int64{0, 2}, 3, []api.Point{{X: 1, Y: 5}, {X: 2, Y: 4}, {X: 3, Y: 0}}, api.OK)
	checkSplit(t, 7, 0, []int64{2}, 2, []api.Point{{X: 1, Y: 2}, {X: 2, Y: 4}}, api.OK)
	checkSplit(t, 7, 3, nil, 2, []api.Point{{X: 1, Y: 3}, {X: 2, Y: 3}}, api.OK)
	checkSplit(t, 7, 0, nil, 2, []api.Point{{X: 1, Y: 0}, {X: 2, Y: 0}}, api.OK)
	checkSplit(t, 7, 0, []int64{0}, 2, []api.Point{{X: 1, Y: 0}, {X: 2, Y: 0}}, api.OK)
	checkSplit(t, 7, 0, make([]int64, api.MaxDeg), 1, []api.Point{{X: 1, Y: 0}}, api.OK)
	checkSplit(t, 7, 3, []int64{2}, 0, nil, api.OK)
	checkSplit(t, 7, 0, nil, 0, nil, api.OK)
	checkSplit(t, 2, 1, []int64{1}, 1, []api.Point{{X: 1, Y: 0}}, api.OK)
}

func TestL1AllSmall(t *testing.T) {
	for p, most := range map[int64]int{2: 7, 3: 5, 5: 3, 7: 2} {
		for count := range most + 1 {
			for _, more := range lists(p, count) {
				for secret := range p {
					for n := range p {
						checkSplit(t, p, secret, more, int(n), wantShares(p, secret, more, n), api.OK)
					}
				}
			}
		}
	}
}

// By every prime, more of every length, with zeros at its end and without, and n up to its limit.
func TestL1Drawn(t *testing.T) {
	r := rand.New(rand.NewSource(20))
	for _, p := range allPrimes() {
		for count := range api.MaxDeg + 1 {
			more := draw(r, p, count)
			clear(more[r.Intn(count+1):])
			secret := r.Int63n(p)
			for _, n := range []int64{0, 1, r.Int63n(p), p - 1} {
				n = min(n, p-1)
				checkSplit(t, p, secret, more, int(n), wantShares(p, secret, more, n), api.OK)
			}
			most := slices.Repeat([]int64{p - 1}, count)
			checkSplit(t, p, p-1, most, int(p)-1, wantShares(p, p-1, most, p-1), api.OK)
		}
	}
}

func TestL1Refused(t *testing.T) {
	for _, far := range farNumbers {
		checkSplit(t, 7, far, nil, 1, nil, api.ErrRange)
		checkSplit(t, 7, far, []int64{1}, 0, nil, api.ErrRange)
		checkSplit(t, 7, 1, []int64{2}, int(far), nil, api.ErrRange)
		for at := range api.MaxDeg {
			more := make([]int64, api.MaxDeg)
			more[at] = far
			checkSplit(t, 7, 1, more, 2, nil, api.ErrRange)
			checkSplit(t, 7, 1, more[:at+1], 0, nil, api.ErrRange)
		}
	}
	for _, p := range allPrimes() {
		checkSplit(t, p, p, []int64{1}, 1, nil, api.ErrRange)
		checkSplit(t, p, -1, []int64{1}, 1, nil, api.ErrRange)
		checkSplit(t, p, 1, []int64{p}, 1, nil, api.ErrRange)
		checkSplit(t, p, 1, []int64{-1, 1}, 1, nil, api.ErrRange)
		checkSplit(t, p, 1, []int64{1}, int(p), nil, api.ErrRange)
		checkSplit(t, p, 1, []int64{1}, -1, nil, api.ErrRange)
	}
}

// More is too long by its zeros, too.
func TestL1TooLong(t *testing.T) {
	zeros := make([]int64, api.MaxDeg+1)
	for _, long := range [][]int64{zeros, append([]int64{2}, zeros...), slices.Repeat([]int64{1}, api.MaxDeg+1), slices.Repeat([]int64{-1}, api.MaxDeg+1), make([]int64, 5000)} {
		checkSplit(t, 7, 1, long, 1, nil, api.ErrLarge)
		// It is named ahead of what is out of bounds.
		checkSplit(t, 7, 7, long, 1, nil, api.ErrLarge)
		checkSplit(t, 7, -1, long, 1, nil, api.ErrLarge)
		checkSplit(t, 7, 1, long, 7, nil, api.ErrLarge)
		checkSplit(t, 7, 1, long, -1, nil, api.ErrLarge)
		checkSplit(t, 251, 1, long, 13, nil, api.ErrLarge)
	}
}

// What is wrong with p is named ahead of all else.
func TestL1Primes(t *testing.T) {
	for _, more := range [][]int64{nil, {1}, {0}, {-1}, {500}, make([]int64, api.MaxDeg+1), slices.Repeat([]int64{-1}, 5000)} {
		for _, secret := range []int64{0, 1, -1, 500, math.MaxInt64} {
			for _, n := range []int{0, 1, -1, 500} {
				for _, p := range farPrimes {
					checkSplit(t, p, secret, more, n, nil, api.ErrRange)
				}
				for _, p := range noPrimes {
					checkSplit(t, p, secret, more, n, nil, api.ErrArg)
				}
			}
		}
	}
	for p := int64(-300); p <= 600; p++ {
		var want []api.Point
		wrong := api.ErrArg
		if p < 2 || p > 251 {
			wrong = api.ErrRange
		} else if isPrime(p) {
			want, wrong = []api.Point{{X: 1, Y: 1}}, api.OK
		}
		checkSplit(t, p, 0, []int64{1}, 1, want, wrong)
	}
}

func TestL2Named(t *testing.T) {
	checkJoin(t, 7, []api.Point{{X: 1, Y: 5}, {X: 2, Y: 0}}, 3, api.OK)
	checkJoin(t, 7, []api.Point{{X: 2, Y: 0}, {X: 1, Y: 5}}, 3, api.OK)
	checkJoin(t, 7, []api.Point{{X: 4, Y: 5}}, 5, api.OK)
	checkJoin(t, 7, []api.Point{{X: 4, Y: 0}}, 0, api.OK)
	checkJoin(t, 7, []api.Point{{X: 4, Y: 0}, {X: 5, Y: 0}}, 0, api.OK)
	checkJoin(t, 7, []api.Point{{X: 1, Y: 1}, {X: 2, Y: 4}, {X: 3, Y: 2}}, 0, api.OK)
	checkJoin(t, 2, []api.Point{{X: 1, Y: 1}}, 1, api.OK)
	checkJoin(t, 7, nil, 0, api.OK)
	checkJoin(t, 7, []api.Point{}, 0, api.OK)
}

// Any points, whether they came of one secret or not.
func TestL2AllSmall(t *testing.T) {
	for p, most := range map[int64]int{2: 1, 3: 2, 5: 4, 7: 3} {
		for _, places := range choices(p, most) {
			for _, heights := range lists(p, len(places)) {
				var l []api.Point
				for i, x := range places {
					l = append(l, api.Point{X: x, Y: heights[i]})
				}
				want := wantJoin(p, l)
				checkJoin(t, p, l, want, api.OK)
				slices.Reverse(l)
				checkJoin(t, p, l, want, api.OK)
			}
		}
	}
}

func TestL2Drawn(t *testing.T) {
	r := rand.New(rand.NewSource(21))
	for _, p := range allPrimes() {
		for count := range min(api.MaxDeg+1, int(p)-1) + 1 {
			for range 5 {
				l := drawPoints(r, p, count)
				checkJoin(t, p, l, wantJoin(p, l), api.OK)
			}
		}
	}
}

// Shares lead back to the secret, if there is at least one more of them than there are numbers in more, whichever they are and however they stand.
func TestL2Secret(t *testing.T) {
	r := rand.New(rand.NewSource(22))
	for _, p := range allPrimes() {
		for count := range min(api.MaxDeg, int(p)-2) + 1 {
			for range 5 {
				secret, more := r.Int63n(p), draw(r, p, count)
				shares, e := share.Split(p, secret, more, int(p)-1)
				if e != api.OK {
					t.Fatal(e)
				}
				r.Shuffle(len(shares), func(i, j int) { shares[i], shares[j] = shares[j], shares[i] })
				for enough := count + 1; enough <= min(api.MaxDeg+1, len(shares)); enough++ {
					checkJoin(t, p, shares[:enough], secret, api.OK)
				}
			}
		}
	}
}

// One share too few leads to some other number, unless the last number of more is 0.
func TestL2TooFew(t *testing.T) {
	r := rand.New(rand.NewSource(23))
	for _, p := range []int64{5, 7, 13, 17, 251} {
		for count := 1; count <= min(api.MaxDeg, int(p)-2); count++ {
			secret, more := r.Int63n(p), draw(r, p, count)
			more[count-1] = 1 + r.Int63n(p-1)
			shares, e := share.Split(p, secret, more, count)
			if s, f := share.Join(p, shares); e != api.OK || f != api.OK || s == secret {
				t.Errorf("by %d, of %d with %v: %d of the shares lead to %d; %d, %d", p, secret, more, count, s, e, f)
			}
		}
	}
}

// farPoints: what is no point by 7.
func farPoints() []api.Point {
	var list []api.Point
	for _, n := range farNumbers {
		list = append(list, api.Point{X: n, Y: 1}, api.Point{X: 1, Y: n}, api.Point{X: n, Y: n}, api.Point{X: 0, Y: n})
	}
	return list
}

func TestL2Refused(t *testing.T) {
	many := make([]api.Point, api.MaxDeg+2)
	for i := range many {
		many[i] = api.Point{X: int64(i) + 1, Y: 1}
	}
	checkJoin(t, 251, many[:api.MaxDeg+1], 1, api.OK)
	checkPoints(t, 251, many, api.ErrLarge)
	checkPoints(t, 7, many, api.ErrLarge)
	checkPoints(t, 7, many[:api.MaxDeg+1], api.ErrRange)
	checkPoints(t, 7, make([]api.Point, api.MaxDeg+2), api.ErrLarge)
	checkPoints(t, 7, slices.Repeat(farPoints(), 9), api.ErrLarge)
	good, zero := api.Point{X: 2, Y: 2}, api.Point{X: 0, Y: 2}
	for _, far := range farPoints() {
		for _, l := range [][]api.Point{{far}, {far, good}, {good, far}, {far, far}, {good, good, far}, {zero, far}, {far, zero}, {zero, zero, far}} {
			checkPoints(t, 7, l, api.ErrRange)
		}
	}
	for _, l := range [][]api.Point{{good, good}, {good, {X: 2, Y: 3}}, {good, {X: 3, Y: 3}, good}, {zero, good, good}, {good, good, zero}} {
		checkPoints(t, 7, l, api.ErrForm)
	}
}

// An X that is 0 is told wherever it stands, behind J3's errors: two of them are two points with one X.
func TestL2AtZero(t *testing.T) {
	for _, p := range allPrimes() {
		count := min(api.MaxDeg+1, int(p))
		for at := range count {
			l := make([]api.Point, count)
			for i := range l {
				l[i] = api.Point{X: (int64(i-at) + p) % p, Y: int64(i) % p}
			}
			checkPoints(t, p, l, api.ErrArg)
			checkPoints(t, p, l[:at+1], api.ErrArg)
			checkPoints(t, p, l[at:], api.ErrArg)
		}
		checkPoints(t, p, []api.Point{{X: 0, Y: 0}}, api.ErrArg)
		checkPoints(t, p, []api.Point{{X: 0, Y: p - 1}}, api.ErrArg)
		checkPoints(t, p, []api.Point{{X: 0, Y: 0}, {X: 0, Y: 1}}, api.ErrForm)
		checkPoints(t, p, make([]api.Point, api.MaxDeg+1), api.ErrForm)
	}
}

func TestL2Primes(t *testing.T) {
	for _, l := range [][]api.Point{nil, {{X: 1, Y: 1}}, {{X: 0, Y: 0}}, {{X: 1, Y: 0}, {X: 1, Y: 1}}, farPoints()[:9], make([]api.Point, 5000)} {
		for _, p := range farPrimes {
			checkPoints(t, p, l, api.ErrRange)
		}
		for _, p := range noPrimes {
			checkPoints(t, p, l, api.ErrArg)
		}
	}
	for p := int64(-300); p <= 600; p++ {
		want, wrong := int64(0), api.ErrArg
		if p < 2 || p > 251 {
			wrong = api.ErrRange
		} else if isPrime(p) {
			want, wrong = 1, api.OK
		}
		checkJoin(t, p, []api.Point{{X: 1, Y: 1}}, want, wrong)
	}
}

func TestL3Named(t *testing.T) {
	checkExplain(t, 7, []api.Point{{X: 1, Y: 5}}, 0, []int64{5}, api.OK)
	checkExplain(t, 7, []api.Point{{X: 1, Y: 5}}, 3, []int64{2}, api.OK)
	checkExplain(t, 7, []api.Point{{X: 1, Y: 5}}, 5, []int64{0}, api.OK)
	checkExplain(t, 7, []api.Point{{X: 1, Y: 5}, {X: 2, Y: 0}}, 3, []int64{2, 0}, api.OK)
	checkExplain(t, 7, []api.Point{{X: 1, Y: 0}, {X: 2, Y: 0}}, 0, []int64{0, 0}, api.OK)
	checkExplain(t, 7, []api.Point{{X: 3, Y: 2}, {X: 1, Y: 1}}, 0, []int64{0, 1}, api.OK)
	checkExplain(t, 2, []api.Point{{X: 1, Y: 0}}, 1, []int64{1}, api.OK)
	checkExplain(t, 7, nil, 4, nil, api.OK)
	checkExplain(t, 7, []api.Point{}, 0, nil, api.OK)
}

// Of each list of numbers, those shares of its that are as many lead back to it: there is no other one.
func TestL3AllSmall(t *testing.T) {
	for p, most := range map[int64]int{2: 1, 3: 2, 5: 4, 7: 3} {
		for _, places := range choices(p, most) {
			for _, more := range lists(p, len(places)) {
				for secret := range p {
					var l []api.Point
					for _, x := range places {
						l = append(l, wantShare(p, secret, more, x))
					}
					checkExplain(t, p, l, secret, more, api.OK)
					slices.Reverse(l)
					checkExplain(t, p, l, secret, more, api.OK)
				}
			}
		}
	}
}

// Too few shares tell nothing: whatever they are, each secret has one list of numbers that makes them, and so each is as likely as each other one.
func TestL3EverySecret(t *testing.T) {
	for p, most := range map[int64]int{3: 2, 5: 3} {
		for _, places := range choices(p, most) {
			for _, heights := range lists(p, len(places)) {
				var l []api.Point
				for i, x := range places {
					l = append(l, api.Point{X: x, Y: heights[i]})
				}
				for secret := range p {
					var found [][]int64
					for _, more := range lists(p, len(l)) {
						shares, _ := share.Split(p, secret, more, int(p)-1)
						if !slices.ContainsFunc(l, func(q api.Point) bool { return !slices.Contains(shares, q) }) {
							found = append(found, more)
						}
					}
					if len(found) != 1 {
						t.Fatalf("by %d, %v of %d: %v", p, l, secret, found)
					}
					checkExplain(t, p, l, secret, found[0], api.OK)
				}
			}
		}
	}
}

func TestL3Drawn(t *testing.T) {
	r := rand.New(rand.NewSource(24))
	for _, p := range allPrimes() {
		for count := range min(api.MaxDeg, int(p)-1) + 1 {
			for range 3 {
				l := drawPoints(r, p, count)
				for _, secret := range []int64{0, r.Int63n(p), p - 1} {
					checkExplained(t, p, l, secret)
				}
			}
		}
	}
}

// As many numbers as points are answered, also where zeros stand at their end.
func TestL3Zeros(t *testing.T) {
	r := rand.New(rand.NewSource(25))
	for _, p := range allPrimes() {
		most := min(api.MaxDeg, int(p)-1)
		for count := range most + 1 {
			secret := r.Int63n(p)
			more := append(draw(r, p, count), make([]int64, most-count)...)
			shares := wantShares(p, secret, more, p-1)
			for enough := count; enough <= most; enough++ {
				checkExplain(t, p, shares[:enough], secret, more[:enough], api.OK)
				checkExplain(t, p, shares[len(shares)-enough:], secret, more[:enough], api.OK)
			}
		}
		checkExplain(t, p, wantShares(p, 0, nil, int64(most)), 0, make([]int64, most), api.OK)
	}
}

func TestL3Refused(t *testing.T) {
	for _, l := range [][]api.Point{nil, {{X: 1, Y: 1}}, {{X: 6, Y: 6}, {X: 1, Y: 0}}} {
		for _, far := range farNumbers {
			checkExplain(t, 7, l, far, nil, api.ErrRange)
		}
	}
	for _, p := range allPrimes() {
		checkExplain(t, p, []api.Point{{X: 1, Y: 1}}, p, nil, api.ErrRange)
		checkExplain(t, p, []api.Point{{X: 1, Y: 1}}, -1, nil, api.ErrRange)
		checkExplain(t, p, []api.Point{{X: 1, Y: 1}}, p-1, []int64{2 % p}, api.OK)
	}
}

// Of MaxDeg + 1 points, which Join takes, ErrLarge is named behind the secret's ErrRange.
func TestL3TooMany(t *testing.T) {
	for _, p := range []int64{17, 19, 251} {
		l := wantShares(p, 3, []int64{1, 2}, api.MaxDeg+1)
		checkJoin(t, p, l, 3, api.OK)
		for _, secret := range []int64{0, 3, p - 1} {
			checkExplain(t, p, l, secret, nil, api.ErrLarge)
			checkExplained(t, p, l[:api.MaxDeg], secret)
		}
		for _, secret := range []int64{-1, p, math.MaxInt64, math.MinInt64} {
			checkExplain(t, p, l, secret, nil, api.ErrRange)
		}
		l[5].X = 0
		checkExplain(t, p, l, -1, nil, api.ErrArg)
		l[6].X = 1
		checkExplain(t, p, l, -1, nil, api.ErrForm)
		checkExplain(t, p, append(l, api.Point{X: 16, Y: 1}), -1, nil, api.ErrLarge)
	}
}

// What comes out is new memory each time, and hangs on nothing but what was given.
func TestL3AgainAndAgain(t *testing.T) {
	shares, _ := share.Split(7, 3, []int64{2, 5}, 6)
	more, _ := share.Explain(7, shares[:2], 4)
	wantList, wantMore := slices.Clone(shares), slices.Clone(more)
	for range 100 {
		s, e := share.Split(7, 3, []int64{2, 5}, 6)
		if !slices.Equal(s, wantList) || e != api.OK {
			t.Fatal(s, e)
		}
		m, e := share.Explain(7, s[:2], 4)
		if !slices.Equal(m, wantMore) || e != api.OK {
			t.Fatal(m, e)
		}
		clear(s)
		clear(m)
	}
	if !slices.Equal(shares, wantList) || !slices.Equal(more, wantMore) {
		t.Error(shares, more)
	}
}
