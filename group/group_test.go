package group_test

import (
	"math"
	"math/rand"
	"testing"

	"lockwright/api"
	"lockwright/group"
)

const (
	most = int64(api.MaxNum)
	mod  = int64(api.MaxMod)
	// lastPrime is the greatest prime up to MaxMod, nextPrime the least above it.
	lastPrime = int64(1048573)
	nextPrime = int64(1048583)
)

// example is the document's group.
var example = api.Group{P: 7, Q: 3, G: 2, H: 4}

// far: what is beyond every limit here, and what would not be if it wrapped round.
var far = []int64{mod + 1, mod + 2, nextPrime, 1 << 21, most, most + 1, 1<<32 + 2, 1<<32 + 3, 1<<32 + 7, math.MaxInt64, math.MinInt64, math.MinInt64 + 1, -1, -2, -3, -mod}

// isPrime tries every number up to the root of n.
func isPrime(n int64) bool {
	for d := int64(2); d*d <= n; d++ {
		if n%d == 0 {
			return false
		}
	}
	return n > 1
}

// order multiplies until 1 is left; 0, where it never is.
func order(a, m int64) int64 {
	product := a % m
	for k := int64(1); k <= m; k++ {
		if product == 1%m {
			return k
		}
		product = product * a % m
	}
	return 0
}

// pow answers what x^k leaves, divided by m, by squaring.
func pow(x, k, m int64) int64 {
	if k == 0 {
		return 1 % m
	}
	half := pow(x, k/2, m)
	if k%2 == 0 {
		return half * half % m
	}
	return half * half % m * x % m
}

// wantCheck goes through U1's words.
func wantCheck(g api.Group) api.Errno {
	if g.P < 3 || g.P > mod || g.Q < 2 || g.Q >= g.P {
		return api.ErrRange
	}
	if g.G < 2 || g.G >= g.P || g.H < 2 || g.H >= g.P {
		return api.ErrRange
	}
	if !isPrime(g.P) || !isPrime(g.Q) || (g.P-1)%g.Q != 0 || order(g.G, g.P) != g.Q || order(g.H, g.P) != g.Q {
		return api.ErrArg
	}
	return api.OK
}

// isMember does not need a group that is one.
func isMember(g api.Group, x int64) bool {
	return x >= 1 && x < g.P && pow(x, g.Q, g.P) == 1
}

// members answers them all.
func members(g api.Group) []int64 {
	var list []int64
	for x := int64(1); x < g.P; x++ {
		if isMember(g, x) {
			list = append(list, x)
		}
	}
	return list
}

// groupsTo answers, of each P up to most and each Q, one group for each G; H is another number of that Order, if there is one.
func groupsTo(most int64) []api.Group {
	var list []api.Group
	for p := int64(3); p <= most; p++ {
		for q := int64(2); q < p; q++ {
			if !isPrime(p) || !isPrime(q) || (p-1)%q != 0 {
				continue
			}
			all := members(api.Group{P: p, Q: q})
			for i := 1; i < len(all); i++ {
				list = append(list, api.Group{P: p, Q: q, G: all[i], H: all[len(all)-i]})
			}
		}
	}
	return list
}

// bigGroup answers a group by the primes p and q, of which q divides p - 1.
func bigGroup(p, q int64) api.Group {
	var found []int64
	for x := int64(2); len(found) < 2; x++ {
		if y := pow(x, (p-1)/q, p); y != 1 {
			found = append(found, y)
		}
	}
	return api.Group{P: p, Q: q, G: found[0], H: found[1]}
}

// bigGroups: with P near MaxMod, and Q from 2 to half of P.
func bigGroups() []api.Group {
	var list []api.Group
	count := 0
	for p := lastPrime; count < 12; p-- {
		if !isPrime(p) {
			continue
		}
		count++
		rest := p - 1
		for q := int64(2); q <= rest; q++ {
			if rest%q != 0 {
				continue
			}
			for rest%q == 0 {
				rest /= q
			}
			list = append(list, bigGroup(p, q))
		}
	}
	return list
}

func askCheck(t *testing.T, g api.Group, want api.Errno) {
	t.Helper()
	if e := group.Check(g); e != want {
		t.Errorf("Check(%v) = %d; want %d", g, e, want)
	}
}

func askPublic(t *testing.T, g api.Group, a, want int64, wrong api.Errno) {
	t.Helper()
	if x, e := group.Public(g, a); x != want || e != wrong {
		t.Errorf("Public(%v, %d) = %d, %d; want %d, %d", g, a, x, e, want, wrong)
	}
}

func askShared(t *testing.T, g api.Group, a, theirs, want int64, wrong api.Errno) {
	t.Helper()
	if x, e := group.Shared(g, a, theirs); x != want || e != wrong {
		t.Errorf("Shared(%v, %d, %d) = %d, %d; want %d, %d", g, a, theirs, x, e, want, wrong)
	}
}

func askLock(t *testing.T, g api.Group, public, m, r int64, want api.Pair, wrong api.Errno) {
	t.Helper()
	if c, e := group.Lock(g, public, m, r); c != want || e != wrong {
		t.Errorf("Lock(%v, %d, %d, %d) = %v, %d; want %v, %d", g, public, m, r, c, e, want, wrong)
	}
}

func askOpen(t *testing.T, g api.Group, a int64, c api.Pair, want int64, wrong api.Errno) {
	t.Helper()
	if m, e := group.Open(g, a, c); m != want || e != wrong {
		t.Errorf("Open(%v, %d, %v) = %d, %d; want %d, %d", g, a, c, m, e, want, wrong)
	}
}

func askMul(t *testing.T, g api.Group, c, d, want api.Pair, wrong api.Errno) {
	t.Helper()
	if m, e := group.Mul(g, c, d); m != want || e != wrong {
		t.Errorf("Mul(%v, %v, %v) = %v, %d; want %v, %d", g, c, d, m, e, want, wrong)
	}
}

// askAll asks every call but Check for an error that is the group's, or the exponent's.
func askAll(t *testing.T, g api.Group, k, x int64, wrong api.Errno) {
	t.Helper()
	askPublic(t, g, k, 0, wrong)
	askShared(t, g, k, x, 0, wrong)
	askLock(t, g, x, x, k, api.Pair{}, wrong)
	askOpen(t, g, k, api.Pair{A: x, B: x}, 0, wrong)
}

func TestU1Named(t *testing.T) {
	askCheck(t, example, api.OK)
	askCheck(t, api.Group{P: 7, Q: 3, G: 4, H: 2}, api.OK)
	askCheck(t, api.Group{P: 7, Q: 3, G: 2, H: 2}, api.OK)
	askCheck(t, api.Group{P: 7, Q: 2, G: 6, H: 6}, api.OK)
	askCheck(t, api.Group{P: 3, Q: 2, G: 2, H: 2}, api.OK)
	askCheck(t, api.Group{P: 7, Q: 3, G: 3, H: 4}, api.ErrArg)
	askCheck(t, api.Group{P: 7, Q: 3, G: 2, H: 3}, api.ErrArg)
	askCheck(t, api.Group{P: 7, Q: 3, G: 6, H: 4}, api.ErrArg)
	askCheck(t, api.Group{P: 7, Q: 6, G: 3, H: 5}, api.ErrArg)
	askCheck(t, api.Group{P: 5, Q: 4, G: 2, H: 3}, api.ErrArg)
	askCheck(t, api.Group{P: 9, Q: 2, G: 8, H: 8}, api.ErrArg)
	askCheck(t, api.Group{P: 15, Q: 2, G: 4, H: 11}, api.ErrArg)
	askCheck(t, api.Group{P: 561, Q: 2, G: 560, H: 560}, api.ErrArg)
	askCheck(t, api.Group{P: 2, Q: 2, G: 2, H: 2}, api.ErrRange)
	askCheck(t, api.Group{P: 7, Q: 3, G: 1, H: 4}, api.ErrRange)
	askCheck(t, api.Group{P: 7, Q: 3, G: 2, H: 1}, api.ErrRange)
	askCheck(t, api.Group{P: 7, Q: 3, G: 9, H: 4}, api.ErrRange)
	askCheck(t, api.Group{P: 7, Q: 3, G: 2, H: 7}, api.ErrRange)
	askCheck(t, api.Group{P: 7, Q: 7, G: 2, H: 4}, api.ErrRange)
	askCheck(t, api.Group{P: 7, Q: 1, G: 2, H: 4}, api.ErrRange)
	askCheck(t, api.Group{}, api.ErrRange)
}

func TestU1SmallNumbers(t *testing.T) {
	groups := 0
	for p := int64(-2); p <= 23; p++ {
		for q := int64(-1); q <= p+1; q++ {
			for g := int64(-1); g <= p+1; g++ {
				for h := int64(-1); h <= p+1; h++ {
					k := api.Group{P: p, Q: q, G: g, H: h}
					want := wantCheck(k)
					askCheck(t, k, want)
					if want == api.OK {
						groups++
					}
				}
			}
		}
	}
	if groups != 136 {
		t.Errorf("only %d groups were tried", groups)
	}
}

// Numbers that are no primes, with a G and a H whose Order is right.
func TestU1NoPrimes(t *testing.T) {
	for p := int64(21); p <= 400; p++ {
		for _, q := range []int64{2, 3, 5, 7, 4, 6, 9, 10, 11, 15} {
			for x := int64(2); x < p; x++ {
				if order(x, p) == q {
					k := api.Group{P: p, Q: q, G: x, H: x}
					askCheck(t, k, wantCheck(k))
				}
			}
		}
	}
}

func TestU1GreatNumbers(t *testing.T) {
	for _, g := range bigGroups() {
		askCheck(t, g, api.OK)
		askCheck(t, api.Group{P: g.P, Q: g.Q, G: g.H, H: g.G}, api.OK)
		askCheck(t, api.Group{P: g.P, Q: 2, G: g.P - 1, H: g.P - 1}, api.OK)
		askCheck(t, api.Group{P: g.P, Q: g.P - 1, G: g.G, H: g.H}, api.ErrArg)
		if g.Q > 2 {
			askCheck(t, api.Group{P: g.P, Q: g.Q, G: g.P - 1, H: g.H}, api.ErrArg)
			askCheck(t, api.Group{P: g.P, Q: g.Q, G: g.G, H: g.P - 1}, api.ErrArg)
			askCheck(t, api.Group{P: g.P, Q: 2, G: g.G, H: g.H}, api.ErrArg)
		}
	}
	askCheck(t, api.Group{P: mod, Q: 2, G: mod - 1, H: mod - 1}, api.ErrArg)
	askCheck(t, api.Group{P: mod + 1, Q: 2, G: mod, H: mod}, api.ErrRange)
	askCheck(t, api.Group{P: nextPrime, Q: 2, G: nextPrime - 1, H: nextPrime - 1}, api.ErrRange)
}

// What is out of range is told ahead of what is no group.
func TestU1Range(t *testing.T) {
	for _, x := range far {
		for _, y := range []int64{2, 3, 4, 7, 8, x} {
			for _, g := range []api.Group{{P: x, Q: y, G: 2, H: 4}, {P: 7, Q: x, G: y, H: 4}, {P: 7, Q: y, G: x, H: 4}, {P: 7, Q: y, G: 2, H: x}, {P: y, Q: 3, G: x, H: x}, {P: 9, Q: x, G: y, H: y}} {
				askCheck(t, g, api.ErrRange)
				for _, k := range []int64{-1, 0, 1, 3, x} {
					askAll(t, g, k, 1, api.ErrRange)
					askAll(t, g, k, x, api.ErrRange)
				}
				askMul(t, g, api.Pair{A: 1, B: 1}, api.Pair{A: 1, B: 1}, api.Pair{}, api.ErrRange)
				askMul(t, g, api.Pair{A: x, B: x}, api.Pair{A: 3, B: 0}, api.Pair{}, api.ErrRange)
			}
		}
	}
}

func TestU2Named(t *testing.T) {
	askPublic(t, example, 0, 1, api.OK)
	askPublic(t, example, 1, 2, api.OK)
	askPublic(t, example, 2, 4, api.OK)
	askPublic(t, example, 3, 0, api.ErrRange)
	askPublic(t, example, -1, 0, api.ErrRange)
	askShared(t, example, 2, 4, 2, api.OK)
	askShared(t, example, 0, 4, 1, api.OK)
	askShared(t, example, 1, 3, 0, api.ErrForm)
	askShared(t, example, 3, 4, 0, api.ErrRange)
	askLock(t, example, 4, 2, 1, api.Pair{A: 2, B: 1}, api.OK)
	askLock(t, example, 4, 2, 0, api.Pair{A: 1, B: 2}, api.OK)
	askLock(t, example, 4, 2, 3, api.Pair{}, api.ErrRange)
	askLock(t, example, 3, 2, 1, api.Pair{}, api.ErrForm)
	askLock(t, example, 4, 3, 1, api.Pair{}, api.ErrForm)
	askOpen(t, example, 2, api.Pair{A: 2, B: 1}, 2, api.OK)
	askOpen(t, example, 0, api.Pair{A: 2, B: 4}, 4, api.OK)
	askOpen(t, example, 2, api.Pair{A: 3, B: 1}, 0, api.ErrForm)
	askOpen(t, example, 2, api.Pair{A: 2, B: 6}, 0, api.ErrForm)
	askMul(t, example, api.Pair{A: 2, B: 1}, api.Pair{A: 4, B: 2}, api.Pair{A: 1, B: 2}, api.OK)
	askMul(t, example, api.Pair{A: 4, B: 4}, api.Pair{A: 4, B: 4}, api.Pair{A: 2, B: 2}, api.OK)
	askMul(t, example, api.Pair{A: 2, B: 1}, api.Pair{A: 4, B: 0}, api.Pair{}, api.ErrForm)
}

// wantOne answers the error of a call with one exponent and two numbers that are to be members.
func wantOne(g api.Group, k, x, y int64) api.Errno {
	if k < 0 || k >= g.Q {
		return api.ErrRange
	}
	if !isMember(g, x) || !isMember(g, y) {
		return api.ErrForm
	}
	return api.OK
}

// opened goes through all the members.
func opened(g api.Group, a int64, c api.Pair) int64 {
	for _, m := range members(g) {
		if m*pow(c.A, a, g.P)%g.P == c.B {
			return m
		}
	}
	return 0
}

// askEach asks the four calls with an exponent, which both numbers follow.
func askEach(t *testing.T, g api.Group, k, x, y int64) {
	t.Helper()
	want := int64(0)
	if k >= 0 && k < g.Q {
		want = pow(g.G, k, g.P)
	}
	askPublic(t, g, k, want, wantOne(g, k, 1, 1))
	want = 0
	wrong := wantOne(g, k, x, 1)
	if wrong == api.OK {
		want = pow(x, k, g.P)
	}
	askShared(t, g, k, x, want, wrong)
	want = 0
	locked := api.Pair{}
	wrong = wantOne(g, k, x, y)
	if wrong == api.OK {
		locked = api.Pair{A: pow(g.G, k, g.P), B: y * pow(x, k, g.P) % g.P}
		want = opened(g, k, api.Pair{A: x, B: y})
	}
	askLock(t, g, x, y, k, locked, wrong)
	askOpen(t, g, k, api.Pair{A: x, B: y}, want, wrong)
}

func TestU2SmallGroups(t *testing.T) {
	for _, g := range groupsTo(13) {
		for k := int64(-2); k <= g.Q+2; k++ {
			for x := int64(-2); x <= g.P+3; x++ {
				for y := int64(-2); y <= g.P+3; y++ {
					askEach(t, g, k, x, y)
				}
			}
		}
	}
}

func TestU2MulSmallGroups(t *testing.T) {
	for _, g := range groupsTo(11) {
		for n := range (g.P + 4) * (g.P + 4) {
			x, y := n%(g.P+4)-2, n/(g.P+4)-2
			for _, c := range []api.Pair{{A: x, B: y}, {A: 1, B: y}, {A: x, B: 1}, {A: g.G, B: g.H}} {
				for _, d := range []api.Pair{{A: x, B: y}, {A: y, B: x}, {A: 1, B: y}, {A: x, B: 1}, {A: g.H, B: g.G}} {
					want, wrong := api.Pair{}, api.ErrForm
					if isMember(g, c.A) && isMember(g, c.B) && isMember(g, d.A) && isMember(g, d.B) {
						want, wrong = api.Pair{A: c.A * d.A % g.P, B: c.B * d.B % g.P}, api.OK
					}
					askMul(t, g, c, d, want, wrong)
				}
			}
		}
	}
}

// Who keeps a, and who keeps b, come to one number; what is locked is opened; and products open as products.
func askTogether(t *testing.T, g api.Group, draw func() int64) {
	t.Helper()
	a, b, r, s := draw(), draw(), draw(), draw()
	m, n := pow(g.G, draw(), g.P), pow(g.H, draw(), g.P)
	mine, theirs := pow(g.G, a, g.P), pow(g.G, b, g.P)
	askPublic(t, g, a, mine, api.OK)
	askShared(t, g, a, theirs, pow(mine, b, g.P), api.OK)
	askShared(t, g, b, mine, pow(theirs, a, g.P), api.OK)
	c := api.Pair{A: pow(g.G, r, g.P), B: m * pow(mine, r, g.P) % g.P}
	d := api.Pair{A: pow(g.G, s, g.P), B: n * pow(mine, s, g.P) % g.P}
	askLock(t, g, mine, m, r, c, api.OK)
	askOpen(t, g, a, c, m, api.OK)
	askOpen(t, g, a, d, n, api.OK)
	both := api.Pair{A: c.A * d.A % g.P, B: c.B * d.B % g.P}
	askMul(t, g, c, d, both, api.OK)
	askOpen(t, g, a, both, m*n%g.P, api.OK)
	askLock(t, g, mine, m*n%g.P, (r+s)%g.Q, both, api.OK)
}

func TestU2Together(t *testing.T) {
	r := rand.New(rand.NewSource(20))
	for _, g := range append(groupsTo(31), bigGroups()...) {
		for range 20 {
			askTogether(t, g, func() int64 { return r.Int63n(g.Q) })
		}
		askTogether(t, g, func() int64 { return 0 })
		askTogether(t, g, func() int64 { return 1 })
		askTogether(t, g, func() int64 { return g.Q - 1 })
	}
}

func TestU2GreatGroupsErrors(t *testing.T) {
	for _, g := range bigGroups() {
		no := int64(0)
		for x := int64(2); x < g.P && no == 0; x++ {
			if !isMember(g, x) {
				no = x
			}
		}
		for _, k := range append([]int64{g.Q, g.Q + 1, -1, g.P, 2 * g.Q}, far...) {
			if k >= 0 && k < g.Q {
				continue
			}
			askAll(t, g, k, 1, api.ErrRange)
			askAll(t, g, k, no, api.ErrRange)
			askAll(t, g, k, k, api.ErrRange)
		}
		for _, x := range []int64{no, 0, -1, g.P, g.P + 1, g.P + g.G, g.G - g.P, 1 - g.P, math.MaxInt64, math.MinInt64} {
			askNoMember(t, g, x)
		}
	}
}

// askNoMember asks every place at which a member is to stand.
func askNoMember(t *testing.T, g api.Group, x int64) {
	t.Helper()
	for _, k := range []int64{0, 1, g.Q - 1} {
		askShared(t, g, k, x, 0, api.ErrForm)
		askLock(t, g, x, g.G, k, api.Pair{}, api.ErrForm)
		askLock(t, g, g.G, x, k, api.Pair{}, api.ErrForm)
		askOpen(t, g, k, api.Pair{A: x, B: g.G}, 0, api.ErrForm)
		askOpen(t, g, k, api.Pair{A: g.G, B: x}, 0, api.ErrForm)
	}
	fine := api.Pair{A: g.G, B: g.H}
	for _, c := range []api.Pair{{A: x, B: 1}, {A: 1, B: x}, {A: x, B: x}} {
		askMul(t, g, c, fine, api.Pair{}, api.ErrForm)
		askMul(t, g, fine, c, api.Pair{}, api.ErrForm)
		askMul(t, g, c, c, api.Pair{}, api.ErrForm)
	}
}

func TestU2FarNumbers(t *testing.T) {
	for _, x := range append([]int64{0, 7, 8, 9, 11, 3, 5, 6, -3, -5, -6}, far...) {
		askNoMember(t, example, x)
		for _, k := range append([]int64{3, 4, 5, 6, 7}, far...) {
			askAll(t, example, k, x, api.ErrRange)
			askAll(t, example, k, 2, api.ErrRange)
		}
	}
}

// What is no group is told ahead of all else.
func TestU2NoGroup(t *testing.T) {
	for _, g := range []api.Group{{P: 7, Q: 3, G: 3, H: 4}, {P: 7, Q: 3, G: 2, H: 3}, {P: 7, Q: 6, G: 3, H: 5}, {P: 9, Q: 2, G: 8, H: 8}, {P: 7, Q: 5, G: 2, H: 4}, {P: 15, Q: 2, G: 4, H: 11}} {
		for _, x := range append([]int64{0, 1, 2, 3, 4, 8}, far...) {
			for _, k := range append([]int64{0, 1, 2, 3, 7}, far...) {
				askAll(t, g, k, x, api.ErrArg)
			}
			askMul(t, g, api.Pair{A: x, B: 1}, api.Pair{A: 1, B: 1}, api.Pair{}, api.ErrArg)
			askMul(t, g, api.Pair{A: 1, B: 1}, api.Pair{A: x, B: x}, api.Pair{}, api.ErrArg)
		}
	}
}

func TestU2AgainAndAgain(t *testing.T) {
	for range 100 {
		askCheck(t, example, api.OK)
		askPublic(t, example, 2, 4, api.OK)
		askLock(t, example, 4, 2, 1, api.Pair{A: 2, B: 1}, api.OK)
		askOpen(t, example, 2, api.Pair{A: 2, B: 1}, 2, api.OK)
		askShared(t, example, 2, 4, 2, api.OK)
	}
}
