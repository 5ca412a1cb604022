package commit_test

import (
	"math"
	"math/rand"
	"testing"

	"lockwright/api"
	"lockwright/commit"
)

const (
	most = int64(api.MaxNum)
	mod  = int64(api.MaxMod)
	// lastPrime is the greatest prime up to MaxMod, nextPrime the least above it.
	lastPrime = int64(1048573)
	nextPrime = int64(1048583)
)

// example is the document's group.
var example = api.Group{P: 7, Q: 3, G: 2, H: 4}

// far: what is beyond every limit here, and what would not be if it wrapped round.
var far = []int64{mod + 1, mod + 2, nextPrime, 1 << 21, most, most + 1, 1 << 32, 1<<32 + 1, 1<<32 + 2, 1<<32 + 7, math.MaxInt64, math.MinInt64, math.MinInt64 + 1, -1, -2, -3, -mod}

// noGroups: numbers within their limits that are no groups.
var noGroups = []api.Group{{P: 7, Q: 3, G: 3, H: 4}, {P: 7, Q: 3, G: 2, H: 3}, {P: 7, Q: 6, G: 3, H: 5}, {P: 9, Q: 2, G: 8, H: 8}, {P: 7, Q: 5, G: 2, H: 4}, {P: 15, Q: 2, G: 4, H: 11}}

// isPrime tries every number up to the root of n.
func isPrime(n int64) bool {
	for d := int64(2); d*d <= n; d++ {
		if n%d == 0 {
			return false
		}
	}
	return n > 1
}

// pow answers what x^k leaves, divided by m, by squaring.
func pow(x, k, m int64) int64 {
	if k == 0 {
		return 1 % m
	}
	half := pow(x, k/2, m)
	if k%2 == 0 {
		return half * half % m
	}
	return half * half % m * x % m
}

func isMember(g api.Group, x int64) bool {
	return x >= 1 && x < g.P && pow(x, g.Q, g.P) == 1
}

// groupsTo answers all groups with a P up to most.
func groupsTo(most int64) []api.Group {
	var list []api.Group
	for p := int64(3); p <= most; p++ {
		for q := int64(2); q < p; q++ {
			if !isPrime(p) || !isPrime(q) || (p-1)%q != 0 {
				continue
			}
			for n := range (p - 2) * (p - 2) {
				k := api.Group{P: p, Q: q, G: n%(p-2) + 2, H: n/(p-2) + 2}
				if isMember(k, k.G) && isMember(k, k.H) {
					list = append(list, k)
				}
			}
		}
	}
	return list
}

// greatGroup: a group near the limits, and the number by whose power of G its H is.
type greatGroup struct {
	api.Group
	log int64
}

// greatGroups: of some primes P near MaxMod, with each prime Q that P - 1 has, and some powers of G.
func greatGroups() []greatGroup {
	var list []greatGroup
	count := 0
	for p := lastPrime; count < 6; p-- {
		if !isPrime(p) {
			continue
		}
		count++
		for q := int64(2); q < p; q++ {
			if (p-1)%q != 0 || !isPrime(q) {
				continue
			}
			g := int64(1)
			for x := int64(2); g == 1; x++ {
				g = pow(x, (p-1)/q, p)
			}
			for _, log := range []int64{1, q - 1, (q + 1) / 2} {
				list = append(list, greatGroup{api.Group{P: p, Q: q, G: g, H: pow(g, log, p)}, log})
			}
		}
	}
	return list
}

// logOf goes through all the powers of G.
func logOf(g api.Group) int64 {
	for k := range g.Q {
		if pow(g.G, k, g.P) == g.H {
			return k
		}
	}
	return -1
}

func bind(g api.Group, m, r int64) int64 {
	return pow(g.G, m, g.P) * pow(g.H, r, g.P) % g.P
}

func inRange(g api.Group, numbers ...int64) bool {
	for _, n := range numbers {
		if n < 0 || n >= g.Q {
			return false
		}
	}
	return true
}

func askCommit(t *testing.T, g api.Group, m, r, want int64, wrong api.Errno) {
	t.Helper()
	if c, e := commit.Commit(g, m, r); c != want || e != wrong {
		t.Errorf("Commit(%v, %d, %d) = %d, %d; want %d, %d", g, m, r, c, e, want, wrong)
	}
}

func askOther(t *testing.T, g api.Group, c, m, log, want int64, wrong api.Errno) {
	t.Helper()
	if r, e := commit.Other(g, c, m, log); r != want || e != wrong {
		t.Errorf("Other(%v, %d, %d, %d) = %d, %d; want %d, %d", g, c, m, log, r, e, want, wrong)
	}
}

func askBreak(t *testing.T, g api.Group, m, r, n, s, want int64, wrong api.Errno) {
	t.Helper()
	if log, e := commit.Break(g, m, r, n, s); log != want || e != wrong {
		t.Errorf("Break(%v, %d, %d, %d, %d) = %d, %d; want %d, %d", g, m, r, n, s, log, e, want, wrong)
	}
}

// askAll asks every call with the number k at each place of an exponent, and x as c, for an error ahead of ErrForm.
func askAll(t *testing.T, g api.Group, k, x int64, wrong api.Errno) {
	t.Helper()
	for _, fine := range []int64{0, 1, k} {
		askCommit(t, g, k, fine, 0, wrong)
		askCommit(t, g, fine, k, 0, wrong)
		askOther(t, g, x, k, fine, 0, wrong)
		askOther(t, g, x, fine, k, 0, wrong)
		for _, n := range []int64{0, 1, k} {
			askBreak(t, g, k, fine, fine, n, 0, wrong)
			askBreak(t, g, fine, k, n, fine, 0, wrong)
			askBreak(t, g, fine, n, k, fine, 0, wrong)
			askBreak(t, g, n, fine, fine, k, 0, wrong)
		}
	}
}

func TestV1Named(t *testing.T) {
	askCommit(t, example, 0, 0, 1, api.OK)
	askCommit(t, example, 1, 0, 2, api.OK)
	askCommit(t, example, 0, 1, 4, api.OK)
	askCommit(t, example, 2, 1, 2, api.OK)
	askCommit(t, example, 1, 1, 1, api.OK)
	askCommit(t, example, 2, 2, 1, api.OK)
	askCommit(t, example, 3, 0, 0, api.ErrRange)
	askCommit(t, example, 0, 3, 0, api.ErrRange)
	askCommit(t, example, -1, 0, 0, api.ErrRange)
	askCommit(t, example, 0, -1, 0, api.ErrRange)
	askOther(t, example, 2, 2, 2, 1, api.OK)
	askOther(t, example, 2, 1, 2, 0, api.OK)
	askOther(t, example, 2, 0, 2, 2, api.OK)
	askOther(t, example, 3, 1, 2, 0, api.ErrForm)
	askOther(t, example, 2, 1, 1, 0, api.ErrArg)
	askOther(t, example, 2, 1, 0, 0, api.ErrArg)
	askOther(t, example, 3, 1, 1, 0, api.ErrForm)
	askOther(t, example, 2, 3, 2, 0, api.ErrRange)
	askOther(t, example, 2, 1, 3, 0, api.ErrRange)
	askOther(t, example, 3, -1, 2, 0, api.ErrRange)
	askOther(t, example, 3, 1, 5, 0, api.ErrRange)
	askOther(t, api.Group{P: 7, Q: 3, G: 2, H: 2}, 4, 1, 1, 1, api.OK)
	askOther(t, api.Group{P: 3, Q: 2, G: 2, H: 2}, 2, 0, 1, 1, api.OK)
}

// other goes through all the numbers; that there is more than one is told as -1.
func other(g api.Group, c, m int64) int64 {
	found := int64(-2)
	for r := range g.Q {
		switch {
		case bind(g, m, r) != c:
		case found != -2:
			return -1
		default:
			found = r
		}
	}
	return found
}

func TestV1SmallGroups(t *testing.T) {
	for _, g := range groupsTo(13) {
		secret := logOf(g)
		for m := int64(-2); m <= g.Q+2; m++ {
			for k := int64(-2); k <= g.Q+2; k++ {
				if inRange(g, m, k) {
					askCommit(t, g, m, k, bind(g, m, k), api.OK)
				} else {
					askCommit(t, g, m, k, 0, api.ErrRange)
				}
				for c := int64(-2); c <= g.P+3; c++ {
					switch {
					case !inRange(g, m, k):
						askOther(t, g, c, m, k, 0, api.ErrRange)
					case !isMember(g, c):
						askOther(t, g, c, m, k, 0, api.ErrForm)
					case k != secret:
						askOther(t, g, c, m, k, 0, api.ErrArg)
					default:
						askOther(t, g, c, m, k, other(g, c, m), api.OK)
					}
				}
			}
		}
	}
}

// Each number that is bound to might be each other one, by just one r: so c tells nothing of it.
func TestV1TellsNothing(t *testing.T) {
	for _, g := range groupsTo(31) {
		counts := map[[2]int64]int{}
		for m := range g.Q {
			for r := range g.Q {
				c, _ := commit.Commit(g, m, r)
				counts[[2]int64{m, c}]++
				askOther(t, g, c, m, logOf(g), r, api.OK)
			}
		}
		for key, count := range counts {
			if count != 1 || !isMember(g, key[1]) {
				t.Errorf("%v: %d is bound to %d by %d numbers", g, key[1], key[0], count)
			}
		}
		if int64(len(counts)) != g.Q*g.Q {
			t.Errorf("%v: %d pairs, not %d", g, len(counts), g.Q*g.Q)
		}
	}
}

func TestV1GreatGroups(t *testing.T) {
	draw := rand.New(rand.NewSource(21))
	for _, g := range greatGroups() {
		for range 5 {
			for _, m := range []int64{0, g.Q - 1, draw.Int63n(g.Q)} {
				r := draw.Int63n(g.Q)
				c := bind(g.Group, m, r)
				askCommit(t, g.Group, m, r, c, api.OK)
				askCommit(t, g.Group, r, m, bind(g.Group, r, m), api.OK)
				askOther(t, g.Group, c, m, g.log, r, api.OK)
				n := draw.Int63n(g.Q)
				// c is G^(m + r * log), and so must be what the answer binds to n.
				if s, e := commit.Other(g.Group, c, n, g.log); e != api.OK || s < 0 || s >= g.Q || (n+s*g.log)%g.Q != (m+r*g.log)%g.Q {
					t.Errorf("Other(%v, %d, %d, %d) = %d, %d", g.Group, c, n, g.log, s, e)
				}
				askOther(t, g.Group, c, m, (g.log+1)%g.Q, 0, api.ErrArg)
			}
		}
	}
}

func TestV1GreatGroupsErrors(t *testing.T) {
	for _, g := range greatGroups() {
		no := int64(2)
		for isMember(g.Group, no) {
			no++
		}
		for _, k := range append([]int64{g.Q, g.Q + 1, -1, g.P, 2 * g.Q}, far...) {
			if !inRange(g.Group, k) {
				askAll(t, g.Group, k, 1, api.ErrRange)
				askAll(t, g.Group, k, no, api.ErrRange)
			}
		}
		for _, x := range []int64{no, 0, -1, g.P, g.P + 1, g.P + g.G, g.G - g.P, 1 - g.P, math.MaxInt64, math.MinInt64} {
			askOther(t, g.Group, x, 1, g.log, 0, api.ErrForm)
			askOther(t, g.Group, x, 0, 0, 0, api.ErrForm)
		}
	}
}

func TestV1FarNumbers(t *testing.T) {
	for _, x := range append([]int64{0, 3, 5, 6, 7, 8, 9, 11, -3, -5, -6}, far...) {
		for m := range example.Q {
			for log := range example.Q {
				askOther(t, example, x, m, log, 0, api.ErrForm)
			}
		}
		for _, k := range append([]int64{3, 4, 5, 6, 7}, far...) {
			askAll(t, example, k, x, api.ErrRange)
			askAll(t, example, k, 2, api.ErrRange)
		}
	}
}

// What is no group is told ahead of all else.
func TestV1NoGroup(t *testing.T) {
	for _, g := range noGroups {
		for _, k := range append([]int64{0, 1, 2, 3, 7}, far...) {
			askAll(t, g, k, 1, api.ErrArg)
			askAll(t, g, k, 3, api.ErrArg)
			askAll(t, g, k, k, api.ErrArg)
		}
	}
	for _, x := range far {
		for _, g := range []api.Group{{P: x, Q: 3, G: 2, H: 4}, {P: 7, Q: x, G: 2, H: 4}, {P: 7, Q: 3, G: x, H: 4}, {P: 7, Q: 3, G: 2, H: x}, {P: 9, Q: 6, G: 2, H: x}, {}} {
			for _, k := range []int64{-1, 0, 1, 3, x} {
				askAll(t, g, k, 1, api.ErrRange)
				askAll(t, g, k, x, api.ErrRange)
			}
		}
	}
}

func TestV2Named(t *testing.T) {
	askBreak(t, example, 1, 0, 2, 1, 2, api.OK)
	askBreak(t, example, 2, 1, 1, 0, 2, api.OK)
	askBreak(t, example, 0, 2, 1, 0, 2, api.OK)
	askBreak(t, example, 1, 0, 1, 0, 0, api.ErrForm)
	askBreak(t, example, 1, 0, 2, 0, 0, api.ErrForm)
	askBreak(t, example, 1, 0, 1, 1, 0, api.ErrForm)
	askBreak(t, example, 1, 0, 2, 2, 0, api.ErrForm)
	askBreak(t, example, 3, 0, 2, 1, 0, api.ErrRange)
	askBreak(t, example, 1, 3, 2, 1, 0, api.ErrRange)
	askBreak(t, example, 1, 0, 3, 1, 0, api.ErrRange)
	askBreak(t, example, 1, 0, 2, -1, 0, api.ErrRange)
	// By 3 steps more, what is bound to would be the same.
	askBreak(t, example, 1, 0, 2, 4, 0, api.ErrRange)
	askBreak(t, example, 4, 0, 1, 0, 0, api.ErrRange)
	askBreak(t, api.Group{P: 7, Q: 3, G: 2, H: 2}, 1, 0, 0, 1, 1, api.OK)
	askBreak(t, api.Group{P: 3, Q: 2, G: 2, H: 2}, 1, 0, 0, 1, 1, api.OK)
	askBreak(t, api.Group{P: 3, Q: 2, G: 2, H: 2}, 0, 0, 1, 1, 1, api.OK)
}

func TestV2SmallGroups(t *testing.T) {
	for _, g := range groupsTo(13) {
		log := logOf(g)
		wide := g.Q + 2
		for n := range wide * wide * wide * wide {
			m, r, o, s := n%wide-1, n/wide%wide-1, n/wide/wide%wide-1, n/wide/wide/wide-1
			switch {
			case !inRange(g, m, r, o, s):
				askBreak(t, g, m, r, o, s, 0, api.ErrRange)
			case m == o && r == s || bind(g, m, r) != bind(g, o, s):
				askBreak(t, g, m, r, o, s, 0, api.ErrForm)
			default:
				askBreak(t, g, m, r, o, s, log, api.OK)
			}
		}
	}
}

func TestV2GreatGroups(t *testing.T) {
	draw := rand.New(rand.NewSource(22))
	for _, g := range greatGroups() {
		for range 20 {
			m, r, s := draw.Int63n(g.Q), draw.Int63n(g.Q), draw.Int63n(g.Q)
			// What r has more than s, times log, is what n is to have more than m.
			n := (m + (r-s+g.Q)*g.log) % g.Q
			if r == s {
				askBreak(t, g.Group, m, r, n, s, 0, api.ErrForm)
				continue
			}
			askBreak(t, g.Group, m, r, n, s, g.log, api.OK)
			askBreak(t, g.Group, n, s, m, r, g.log, api.OK)
			askBreak(t, g.Group, m, r, m, s, 0, api.ErrForm)
			askBreak(t, g.Group, m, r, (n+1)%g.Q, s, 0, api.ErrForm)
			askBreak(t, g.Group, m, r, m, r, 0, api.ErrForm)
		}
	}
}

// Who knows the log finds a second r of each other number, and who is told both finds the log.
func TestV2FindsWhatOtherNeeds(t *testing.T) {
	for _, g := range groupsTo(23) {
		log := logOf(g)
		for m := range g.Q {
			for n := range g.Q {
				c, _ := commit.Commit(g, m, 1)
				s, _ := commit.Other(g, c, n, log)
				if m != n {
					askBreak(t, g, m, 1, n, s, log, api.OK)
				}
			}
		}
	}
}

func TestV2AgainAndAgain(t *testing.T) {
	for range 100 {
		askCommit(t, example, 2, 1, 2, api.OK)
		askOther(t, example, 2, 2, 2, 1, api.OK)
		askBreak(t, example, 1, 0, 2, 1, 2, api.OK)
	}
}
