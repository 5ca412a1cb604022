package crt_test

import (
	"math"
	"slices"
	"testing"

	"lockwright/api"
	"lockwright/crt"
)

const (
	most = int64(api.MaxNum)
	mod  = int64(api.MaxMod)
)

// The numbers next to MaxNum that are made of numbers up to MaxMod: so the greatest M that can be answered, and the least that is too great.
var (
	greatest = []int64{2 * 3 * 3 * 7 * 11 * 31, 151 * 331}
	tooGreat = []int64{2 * 5 * 5 * 13 * 41, 61 * 1321}
)

// farRests: what Solve does not take, just beyond each limit and as far out as can be.
func farRests() []api.Rest {
	var list []api.Rest
	for _, m := range []int64{0, -1, -7, -mod, mod + 1, mod + 2, 1<<32 + 5, most, math.MaxInt64, math.MinInt64} {
		for _, a := range []int64{0, 1, -most, most} {
			list = append(list, api.Rest{A: a, M: m})
		}
	}
	for _, a := range []int64{most + 1, -most - 1, 1<<32 + 1, -1<<32 + 1, math.MaxInt64, math.MinInt64, math.MinInt64 + 1} {
		for _, m := range []int64{1, 2, 7, mod, 0, mod + 1} {
			list = append(list, api.Rest{A: a, M: m})
		}
	}
	return list
}

// fits is D1's own word.
func fits(n int64, r api.Rest) bool { return (n-r.A)%r.M == 0 }

func fitsAll(n int64, l []api.Rest) bool {
	for _, r := range l {
		if !fits(n, r) {
			return false
		}
	}
	return true
}

// left answers what is left of n, divided by m, from 0 on.
func left(n, m int64) int64 { return (n%m + m) % m }

// gcd answers what divides both a and b, from 1 on.
func gcd(a, b int64) int64 {
	for b != 0 {
		a, b = b, a%b
	}
	return a
}

// common answers the least number above 0 that all the Ms of l divide.
func common(l []api.Rest) int64 {
	m := int64(1)
	for _, r := range l {
		m = m / gcd(m, r.M) * r.M
	}
	return m
}

// counted tries every number until all the Ms divide one, as D1 says it.
func counted(l []api.Rest) (api.Rest, api.Errno) {
	m := int64(1)
	for slices.ContainsFunc(l, func(r api.Rest) bool { return m%r.M != 0 }) {
		m++
	}
	for a := range m {
		if fitsAll(a, l) {
			return api.Rest{A: a, M: m}, api.OK
		}
	}
	return api.Rest{}, api.ErrNone
}

func check(t *testing.T, l []api.Rest, want api.Rest, wrong api.Errno) {
	t.Helper()
	if r, e := crt.Solve(l); r != want || e != wrong {
		t.Errorf("Solve(%v) = %v, %d; want %v, %d", l, r, e, want, wrong)
	}
}

func checkRefused(t *testing.T, l []api.Rest, wrong api.Errno) {
	t.Helper()
	check(t, l, api.Rest{}, wrong)
}

// rests answers the rests of a by each of the numbers.
func rests(a int64, numbers ...int64) []api.Rest {
	var l []api.Rest
	for _, m := range numbers {
		l = append(l, api.Rest{A: a, M: m})
	}
	return l
}

func TestD1Named(t *testing.T) {
	check(t, []api.Rest{{A: 2, M: 3}, {A: 3, M: 5}}, api.Rest{A: 8, M: 15}, api.OK)
	check(t, []api.Rest{{A: 2, M: 3}, {A: 3, M: 5}, {A: 2, M: 7}}, api.Rest{A: 23, M: 105}, api.OK)
	check(t, []api.Rest{{A: 3, M: 4}, {A: 5, M: 6}}, api.Rest{A: 11, M: 12}, api.OK)
	check(t, []api.Rest{{A: -1, M: 5}}, api.Rest{A: 4, M: 5}, api.OK)
	check(t, []api.Rest{{A: 7, M: 1}}, api.Rest{A: 0, M: 1}, api.OK)
	check(t, []api.Rest{{A: 5, M: 6}, {A: 5, M: 6}}, api.Rest{A: 5, M: 6}, api.OK)
	checkRefused(t, []api.Rest{{A: 1, M: 2}, {A: 2, M: 4}}, api.ErrNone)
	checkRefused(t, []api.Rest{{A: 0, M: 7}, {A: 1, M: 7}}, api.ErrNone)
}

func TestD1OfNone(t *testing.T) {
	check(t, nil, api.Rest{A: 0, M: 1}, api.OK)
	check(t, []api.Rest{}, api.Rest{A: 0, M: 1}, api.OK)
}

func TestD1SmallPairs(t *testing.T) {
	var all []api.Rest
	for m := int64(1); m <= 12; m++ {
		for a := -m - 2; a <= m+2; a++ {
			all = append(all, api.Rest{A: a, M: m})
		}
	}
	for _, r := range all {
		check(t, []api.Rest{r}, api.Rest{A: left(r.A, r.M), M: r.M}, api.OK)
		for _, s := range all {
			l := []api.Rest{r, s}
			want, wrong := counted(l)
			check(t, l, want, wrong)
		}
	}
}

func TestD1SmallTriples(t *testing.T) {
	var all []api.Rest
	for m := int64(1); m <= 9; m++ {
		for a := range m {
			all = append(all, api.Rest{A: a, M: m})
		}
	}
	for _, r := range all {
		for _, s := range all {
			for _, u := range all {
				l := []api.Rest{r, s, u}
				want, wrong := counted(l)
				check(t, l, want, wrong)
			}
		}
	}
}

func TestD1OneRestAtTheLimits(t *testing.T) {
	for _, m := range []int64{1, 2, 3, 7, 1009, 1048573, mod - 1, mod} {
		for _, a := range []int64{-most, -most + 1, -mod, -1, 0, 1, m - 1, m, m + 1, mod, most - 1, most} {
			check(t, []api.Rest{{A: a, M: m}}, api.Rest{A: left(a, m), M: m}, api.OK)
		}
	}
}

func TestD1TwoRestsAtTheLimits(t *testing.T) {
	// 2047 is 2^11 - 1, so MaxNum and MaxMod, 2^31 and 2^20, leave the same, 2^9.
	check(t, []api.Rest{{A: -most, M: mod}, {A: most, M: 2047}}, api.Rest{A: mod, M: 2047 * mod}, api.OK)
	check(t, []api.Rest{{A: most, M: mod}, {A: -most, M: 2047}}, api.Rest{A: 2046 * mod, M: 2047 * mod}, api.OK)
	check(t, []api.Rest{{A: most, M: mod}, {A: -most, M: mod}}, api.Rest{A: 0, M: mod}, api.OK)
	check(t, []api.Rest{{A: -1, M: 2047}, {A: -1, M: mod}}, api.Rest{A: 2047*mod - 1, M: 2047 * mod}, api.OK)
	checkRefused(t, []api.Rest{{A: most, M: mod}, {A: -most + 1, M: mod}}, api.ErrNone)
	checkRefused(t, []api.Rest{{A: most, M: mod}, {A: most - 1, M: 2}}, api.ErrNone)
}

// draws is a row of numbers that is the same in each run.
type draws uint64

func (d *draws) below(n int64) int64 {
	*d = *d*6364136223846793005 + 1442695040888963407
	return int64(uint64(*d)>>33) % n
}

// wholes: numbers up to MaxNum, most with many divisors, so that Ms of theirs have much in common.
var wholes = []int64{2095133040, mod * 2047, 223092870 * 9, 223092870 * 8, 1162261467, 46337 * 46339, most - 2}

// divisors answers those of n that may be an M.
func divisors(n int64) []int64 {
	var list []int64
	for d := int64(1); d <= mod; d++ {
		if n%d == 0 {
			list = append(list, d)
		}
	}
	return list
}

// drawRests answers rests that n fits, their As anywhere within the limits; n is from 0 on and at most MaxNum.
func drawRests(d *draws, n int64, ms []int64) []api.Rest {
	var l []api.Rest
	for range d.below(api.MaxRests + 1) {
		m := ms[d.below(int64(len(ms)))]
		low := n%m - most/m*m
		if low < -most {
			low += m
		}
		steps := (most - low) / m
		l = append(l, api.Rest{A: low + d.below(steps+1)*m, M: m})
	}
	return l
}

func TestD1GreatNumbersThatFit(t *testing.T) {
	d := draws(1)
	for _, whole := range wholes {
		ms := divisors(whole)
		for range 4000 {
			n := d.below(most)
			l := drawRests(&d, n, ms)
			m := common(l)
			check(t, l, api.Rest{A: n % m, M: m}, api.OK)
		}
	}
}

// agree tells whether a number fits all of l: there is one just where there is one for each two of them.
func agree(l []api.Rest) bool {
	for i, r := range l {
		for _, s := range l[:i] {
			if (r.A-s.A)%gcd(r.M, s.M) != 0 {
				return false
			}
		}
	}
	return true
}

func TestD1GreatNumbersThatMayNotFit(t *testing.T) {
	d := draws(2)
	none := 0
	for _, whole := range wholes {
		ms := divisors(whole)
		for range 4000 {
			l := drawRests(&d, d.below(most), ms)
			if len(l) == 0 {
				continue
			}
			// Towards 0, so that it stays within the limits.
			turned := &l[d.below(int64(len(l)))]
			turned.A -= turned.A / (2 + d.below(5))
			if !agree(l) {
				none++
				checkRefused(t, l, api.ErrNone)
				continue
			}
			r, e := crt.Solve(l)
			if e != api.OK || r.M != common(l) || r.A < 0 || r.A >= r.M || !fitsAll(r.A, l) {
				t.Errorf("Solve(%v) = %v, %d", l, r, e)
			}
		}
	}
	if none < 1000 {
		t.Errorf("only %d lists that nothing fits were tried", none)
	}
}

func TestD1AnyOrderAnswersTheSame(t *testing.T) {
	n := int64(9973)
	var l []api.Rest
	for i, m := range []int64{4, 6, 9, 35, 11, 1, 12, 5} {
		l = append(l, api.Rest{A: n + int64(i-4)*7*m, M: m})
	}
	want := api.Rest{A: n, M: 4 * 9 * 35 * 11}
	for i := range l {
		turned := slices.Concat(l[i:], l[:i])
		check(t, turned, want, api.OK)
		slices.Reverse(turned)
		check(t, turned, want, api.OK)
	}
}

func TestD1HowMany(t *testing.T) {
	full := rests(-1, 2, 3, 4, 5, 6, 7, 8, 9)
	check(t, full, api.Rest{A: 2519, M: 2520}, api.OK)
	for _, n := range []int{9, 10, 64, 5000} {
		checkRefused(t, slices.Repeat([]api.Rest{{A: 0, M: 1}}, n), api.ErrLarge)
	}
	// ErrLarge is named first: whatever else is wrong, it is told.
	checkRefused(t, slices.Repeat([]api.Rest{{}}, 9), api.ErrLarge)
	checkRefused(t, append([]api.Rest{{A: most + 1, M: 2}}, full...), api.ErrLarge)
	checkRefused(t, append([]api.Rest{{A: 0, M: mod}, {A: 1, M: mod}}, full...), api.ErrLarge)
	checkRefused(t, slices.Repeat(rests(0, mod, mod-1, mod-3), 3), api.ErrLarge)
}

func TestD1TooFar(t *testing.T) {
	for _, far := range farRests() {
		checkRefused(t, []api.Rest{far}, api.ErrRange)
		checkRefused(t, []api.Rest{far, {A: 2, M: 3}}, api.ErrRange)
		checkRefused(t, []api.Rest{{A: 2, M: 3}, {A: 3, M: 5}, far}, api.ErrRange)
		checkRefused(t, []api.Rest{far, far}, api.ErrRange)
		// ErrRange is named ahead of ErrNone, wherever in the list it stands.
		checkRefused(t, []api.Rest{{A: 1, M: 2}, {A: 2, M: 4}, far}, api.ErrRange)
		checkRefused(t, []api.Rest{far, {A: 1, M: 2}, {A: 2, M: 4}}, api.ErrRange)
		checkRefused(t, append(rests(0, 2, 3, 4, 5, 6, 7, 8), far), api.ErrRange)
	}
}

func TestD1CommonNumberAtTheLimit(t *testing.T) {
	check(t, rests(-1, greatest...), api.Rest{A: most - 3, M: most - 2}, api.OK)
	check(t, rests(most, greatest...), api.Rest{A: 2, M: most - 2}, api.OK)
	check(t, rests(-most, greatest...), api.Rest{A: most - 4, M: most - 2}, api.OK)
	checkRefused(t, rests(0, tooGreat...), api.ErrRange)
	checkRefused(t, rests(1, mod, 2049), api.ErrRange)
	check(t, rests(1, mod, 2048), api.Rest{A: 1, M: mod}, api.OK)
	check(t, rests(1, mod, mod, mod, mod, mod, mod, mod, mod), api.Rest{A: 1, M: mod}, api.OK)
	// What all of these divide has far more bits than an int64.
	checkRefused(t, rests(0, mod, mod-1, mod-3, mod-5, mod-9, mod-11, mod-15, mod-17), api.ErrRange)
	// Each two of them stay within the limit, the three do not.
	checkRefused(t, rests(0, 1291, 1297, 1301), api.ErrRange)
	check(t, rests(0, 1289, 1283, 1291), api.Rest{A: 0, M: 1289 * 1283 * 1291}, api.OK)
}

// That the common number is too great is named ahead of ErrNone, even where the first two do not go together.
func TestD1CommonNumberAheadOfNone(t *testing.T) {
	checkRefused(t, append([]api.Rest{{A: 1, M: 2}}, rests(0, tooGreat...)...), api.ErrRange)
	checkRefused(t, append(rests(0, tooGreat...), api.Rest{A: 1, M: 2}), api.ErrRange)
	checkRefused(t, []api.Rest{{A: 0, M: mod}, {A: 1, M: mod}, {A: 0, M: 2049}}, api.ErrRange)
	checkRefused(t, []api.Rest{{A: 0, M: mod}, {A: 1, M: mod - 2}}, api.ErrRange)
	checkRefused(t, []api.Rest{{A: 0, M: mod}, {A: 1, M: mod}, {A: 0, M: 2047}}, api.ErrNone)
}

// The list is not changed, and what lies behind its length is neither read nor written.
func TestD1LeavesTheListAlone(t *testing.T) {
	whole := []api.Rest{{A: -2, M: 3}, {A: 13, M: 5}, {A: 0, M: 0}, {A: 1, M: 3}, {A: most + 1, M: -1}}
	before := slices.Clone(whole)
	check(t, whole[:2], api.Rest{A: 13, M: 15}, api.OK)
	check(t, whole[:0], api.Rest{A: 0, M: 1}, api.OK)
	checkRefused(t, whole[:3], api.ErrRange)
	if !slices.Equal(whole, before) {
		t.Errorf("Solve made %v of %v", whole, before)
	}
}
