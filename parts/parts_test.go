package parts_test

import (
	"math"
	"math/rand"
	"slices"
	"testing"

	"lockwright/api"
	"lockwright/parts"
)

// mark stands behind the lists of numbers that are handed in.
const mark = int64(-77)

// markGate stands behind the gates.
var markGate = api.Gate{Kind: -77, A: -77, B: -77, N: -77}

// far: what is out of bounds by every prime here, and what would not be if it wrapped round.
var far = []int64{-1, -2, -7, 251, 252, 257, 1<<32 + 1, 1 << 40, math.MaxInt64, math.MinInt64, math.MinInt64 + 1}

// farPlaces: where no input and no gate stands.
var farPlaces = []int{-1, -2, api.MaxGates, api.MaxGates + 1, 1 << 32, 1<<32 + 1, math.MaxInt, math.MinInt, math.MinInt + 1}

// farPrimes: what no call takes as p, just beyond the limits and as far out as can be; there are primes among them.
var farPrimes = []int64{1, 0, -1, -2, -3, -7, -251, 252, 253, 257, 263, 4093, 65537, 1<<32 + 7, 1<<32 + 15, math.MaxInt64, math.MinInt64, math.MinInt64 + 1}

// noPrimes: what is in range, and no prime.
var noPrimes = []int64{4, 6, 8, 9, 15, 25, 49, 64, 91, 121, 169, 221, 249, 250}

// farParties: t that no prime lets be, some of which would do if they wrapped round when they are doubled.
var farParties = []int{-1, -2, -5, 5, 6, 8, 9, 100, 1 << 31, 1 << 32, 1 << 62, 1<<62 + 1, 1<<62 + 4, 3 << 61, math.MaxInt, math.MaxInt - 1, math.MinInt, math.MinInt + 1, math.MinInt + 4}

// example: the input, and its square.
var example = []api.Gate{{Kind: api.GInput}, {Kind: api.GMul}}

func isPrime(n int64) bool {
	for d := int64(2); d < n; d++ {
		if n%d == 0 {
			return false
		}
	}
	return n > 1
}

func allPrimes() []int64 {
	var list []int64
	for p := int64(2); p <= api.MaxPrime; p++ {
		if isPrime(p) {
			list = append(list, p)
		}
	}
	return list
}

// mostPlayed answers the greatest t by p.
func mostPlayed(p int64) int { return int(min(4, (p-2)/2)) }

// inside tells whether all the numbers are from 0 to p - 1.
func inside(p int64, list []int64) bool {
	for _, n := range list {
		if n < 0 || n >= p {
			return false
		}
	}
	return true
}

func wantPrime(p int64) api.Errno {
	if p < 2 || p > 251 {
		return api.ErrRange
	}
	if !isPrime(p) {
		return api.ErrArg
	}
	return api.OK
}

// wantGate answers what is wrong with the gate at place i.
func wantGate(p int64, g api.Gate, i, inputs int) api.Errno {
	wrong := api.OK
	if g.Kind < api.GInput || g.Kind > api.GMul {
		wrong = api.ErrKind
	}
	if g.Kind == api.GInput && (g.A < 0 || g.A >= inputs) {
		wrong = api.ErrArg
	}
	if (g.Kind == api.GAdd || g.Kind == api.GMul) && (g.A < 0 || g.A >= i || g.B < 0 || g.B >= i) {
		wrong = api.ErrArg
	}
	if g.Kind == api.GConst && (g.N < 0 || g.N >= p) {
		wrong = api.ErrRange
	}
	return wrong
}

// wantWrong goes through X1's words.
func wantWrong(p int64, gates []api.Gate, inputs []int64) api.Errno {
	if wrong := wantPrime(p); wrong != api.OK {
		return wrong
	}
	if len(gates) > 60 || len(inputs) > 60 {
		return api.ErrLarge
	}
	if !inside(p, inputs) {
		return api.ErrRange
	}
	for i, g := range gates {
		if wrong := wantGate(p, g, i, len(inputs)); wrong != api.OK {
			return wrong
		}
	}
	return api.OK
}

// valueOf asks the gates that a gate needs, from the last one back.
func valueOf(p int64, gates []api.Gate, inputs []int64, i int) int64 {
	g := gates[i]
	if g.Kind == api.GInput {
		return inputs[g.A]
	}
	if g.Kind == api.GConst {
		return g.N
	}
	a, b := valueOf(p, gates, inputs, g.A), valueOf(p, gates, inputs, g.B)
	if g.Kind == api.GAdd {
		return (a + b) % p
	}
	return a * b % p
}

func wantClear(p int64, gates []api.Gate, inputs []int64) []int64 {
	var list []int64
	for i := range gates {
		list = append(list, valueOf(p, gates, inputs, i))
	}
	return list
}

// weight answers the number that the X of one of n parties has; what to divide by is searched for.
func weight(p, x, n int64) int64 {
	over, under := int64(1), int64(1)
	for o := int64(1); o <= n; o++ {
		if o != x {
			over = over * (p - o) % p
			under = under * ((x-o)%p + p) % p
		}
	}
	w := int64(0)
	for w*under%p != over {
		w++
	}
	return w
}

// drawn gives what is drawn, one by one, then zeros.
type drawn struct{ rest []int64 }

func (d *drawn) next() int64 {
	if len(d.rest) == 0 {
		return 0
	}
	n := d.rest[0]
	d.rest = d.rest[1:]
	return n
}

// share answers what the polynomial is at 1 to n that has the value, and t numbers that are drawn.
func (d *drawn) share(p, value int64, t, n int) []int64 {
	list := slices.Repeat([]int64{value}, n)
	for k := range t {
		m := d.next()
		for i := range list {
			for range k + 1 {
				m = m * int64(i+1) % p
			}
			list[i] = (list[i] + m) % p
			for range k + 1 {
				m = m * inverse(p, int64(i+1)) % p
			}
		}
	}
	return list
}

func inverse(p, n int64) int64 {
	for m := range p {
		if m*n%p == 1 {
			return m
		}
	}
	return 0
}

// wantPlay goes through X2's words, with the weights of the Xs.
func wantPlay(p int64, t int, gates []api.Gate, inputs, random []int64) [][]int64 {
	d := &drawn{rest: random}
	n := 2*t + 1
	var all [][]int64
	for _, g := range gates {
		row := make([]int64, n)
		if g.Kind == api.GInput {
			row = d.share(p, inputs[g.A], t, n)
		} else if g.Kind == api.GConst {
			row = slices.Repeat([]int64{g.N}, n)
		} else if g.Kind == api.GAdd {
			for i := range row {
				row[i] = (all[g.A][i] + all[g.B][i]) % p
			}
		} else {
			for i := range n {
				w := weight(p, int64(i+1), int64(n))
				for j, s := range d.share(p, all[g.A][i]*all[g.B][i]%p, t, n) {
					row[j] = (row[j] + w*s) % p
				}
			}
		}
		all = append(all, row)
	}
	return all
}

// wantOpen adds the shares, each times its X's number.
func wantOpen(p int64, shares []int64) int64 {
	sum := int64(0)
	for i, s := range shares {
		sum = (sum + s*weight(p, int64(i+1), int64(len(shares)))) % p
	}
	return sum
}

// guarded lays a list into longer memory, and answers it with what asks whether all of that is still as it was.
func guarded[T comparable](l []T, behind T) ([]T, func() bool) {
	memory := slices.Concat(l, slices.Repeat([]T{behind}, 12))
	before := slices.Clone(memory)
	return memory[:len(l)], func() bool { return slices.Equal(memory, before) }
}

func sameRows(a, b [][]int64) bool { return slices.EqualFunc(a, b, slices.Equal[[]int64]) }

// askClear spoils what came out: it is shared with nothing that was given.
func askClear(t *testing.T, p int64, gates []api.Gate, inputs, want []int64, wrong api.Errno) {
	t.Helper()
	g, sameGates := guarded(gates, markGate)
	in, sameInputs := guarded(inputs, mark)
	v, e := parts.Clear(p, g, in)
	if !slices.Equal(v, want) || e != wrong {
		t.Errorf("Clear(%d, %v, %v) = %v, %d; want %v, %d", p, gates, inputs, v, e, want, wrong)
	}
	clear(v)
	if !sameGates() || !sameInputs() {
		t.Errorf("Clear(%d, %v, %v) changed what was given", p, gates, inputs)
	}
}

// askPlay spoils the rows that came out, one by one, as far as their memory goes: they share none.
func askPlay(t *testing.T, p int64, n int, gates []api.Gate, inputs, random []int64, want [][]int64, wrong api.Errno) {
	t.Helper()
	g, sameGates := guarded(gates, markGate)
	in, sameInputs := guarded(inputs, mark)
	r, sameRandom := guarded(random, mark)
	s, e := parts.Play(p, n, g, in, r)
	if !sameRows(s, want) || e != wrong {
		t.Errorf("Play(%d, %d, %v, %v, %v) = %v, %d; want %v, %d", p, n, gates, inputs, random, s, e, want, wrong)
		return
	}
	for i, row := range s {
		if !slices.Equal(row, want[i]) {
			t.Errorf("Play(%d, %d, %v, %v, %v): the row %d shares memory", p, n, gates, inputs, random, i)
		}
		clear(row[:cap(row)])
	}
	if !sameGates() || !sameInputs() || !sameRandom() {
		t.Errorf("Play(%d, %d, %v, %v, %v) changed what was given", p, n, gates, inputs, random)
	}
}

func askOpen(t *testing.T, p int64, n int, shares []int64, want int64, wrong api.Errno) {
	t.Helper()
	given, same := guarded(shares, mark)
	if x, e := parts.Open(p, n, given); x != want || e != wrong {
		t.Errorf("Open(%d, %d, %v) = %d, %d; want %d, %d", p, n, shares, x, e, want, wrong)
	}
	if !same() {
		t.Errorf("Open(%d, %d, %v) changed what was given", p, n, shares)
	}
}

// askBoth asks Clear, and Play with what might be wrong behind it, for one error that is Clear's.
func askBoth(t *testing.T, p int64, gates []api.Gate, inputs []int64, wrong api.Errno) {
	t.Helper()
	askClear(t, p, gates, inputs, nil, wrong)
	for _, n := range []int{0, 1, 4, 5, -1, math.MaxInt, math.MinInt} {
		for _, random := range [][]int64{nil, {1}, {-1}, {500, 0}, {math.MinInt64}} {
			askPlay(t, p, n, gates, inputs, random, nil, wrong)
		}
	}
}

func draw(r *rand.Rand, p int64, count int) []int64 {
	list := make([]int64, count)
	for i := range list {
		list[i] = r.Int63n(p)
	}
	return list
}

// drawGates answers count gates; what their kinds do not need is far out.
func drawGates(r *rand.Rand, p int64, count, inputs int) []api.Gate {
	var list []api.Gate
	for i := range count {
		no := farPlaces[r.Intn(len(farPlaces))]
		g := api.Gate{Kind: 1 + r.Intn(4), A: no, B: no, N: far[r.Intn(len(far))]}
		if i == 0 || inputs == 0 && g.Kind == api.GInput {
			g.Kind = api.GConst
		}
		if g.Kind == api.GInput {
			g.A = r.Intn(inputs)
		} else if g.Kind == api.GConst {
			g.N = r.Int63n(p)
		} else {
			g.A, g.B = r.Intn(i), r.Intn(i)
		}
		list = append(list, g)
	}
	return list
}

// lists answers all lists of count numbers from 0 to p - 1.
func lists(p int64, count int) [][]int64 {
	all := [][]int64{{}}
	for range count {
		var next [][]int64
		for _, a := range all {
			for n := range p {
				next = append(next, append(slices.Clone(a), n))
			}
		}
		all = next
	}
	return all
}

// smallGates: with each kind, and some that are none, and what is just in bounds and just out of them.
func smallGates(p int64) []api.Gate {
	var list []api.Gate
	for kind := -1; kind <= 6; kind++ {
		for a := -1; a <= 2; a++ {
			for b := -1; b <= 2; b++ {
				for _, n := range []int64{-1, 0, p - 1, p} {
					list = append(list, api.Gate{Kind: kind, A: a, B: b, N: n})
				}
			}
		}
	}
	return list
}

func TestX1Named(t *testing.T) {
	askClear(t, 7, example, []int64{3}, []int64{3, 2}, api.OK)
	askClear(t, 7, []api.Gate{{Kind: api.GInput}, {Kind: api.GAdd}}, []int64{4}, []int64{4, 1}, api.OK)
	askClear(t, 7, []api.Gate{{Kind: api.GConst, N: 6}, {Kind: api.GInput, A: 1}, {Kind: api.GMul, B: 1}, {Kind: api.GAdd, A: 2, B: 1}}, []int64{1, 5}, []int64{6, 5, 2, 0}, api.OK)
	askClear(t, 2, []api.Gate{{Kind: api.GConst, N: 1}, {Kind: api.GAdd}, {Kind: api.GMul}}, nil, []int64{1, 0, 1}, api.OK)
	askClear(t, 251, []api.Gate{{Kind: api.GConst, N: 250}, {Kind: api.GMul}, {Kind: api.GAdd}}, nil, []int64{250, 1, 249}, api.OK)
	askClear(t, 7, nil, nil, nil, api.OK)
	askClear(t, 7, nil, []int64{1, 2}, nil, api.OK)
	askBoth(t, 7, []api.Gate{{Kind: api.GMul}}, nil, api.ErrArg)
	askBoth(t, 7, example, nil, api.ErrArg)
	askBoth(t, 7, example, []int64{7}, api.ErrRange)
	askBoth(t, 7, []api.Gate{{}}, nil, api.ErrKind)
	askBoth(t, 7, []api.Gate{{Kind: api.GConst, N: 7}}, nil, api.ErrRange)
	askBoth(t, 9, example, []int64{3}, api.ErrArg)
	askBoth(t, 1, example, []int64{3}, api.ErrRange)
}

func TestX1SmallGates(t *testing.T) {
	for _, p := range []int64{2, 3, 7} {
		for _, inputs := range [][]int64{nil, {1}, {p - 1, 0}} {
			for _, first := range append(smallGates(p), api.Gate{Kind: api.GConst, N: 1}) {
				for _, second := range smallGates(p) {
					gates := []api.Gate{first, second}
					var want []int64
					wrong := wantWrong(p, gates, inputs)
					if wrong == api.OK {
						want = wantClear(p, gates, inputs)
					}
					if v, e := parts.Clear(p, gates, inputs); !slices.Equal(v, want) || e != wrong {
						t.Fatalf("Clear(%d, %v, %v) = %v, %d; want %v, %d", p, gates, inputs, v, e, want, wrong)
					}
				}
			}
		}
	}
}

func TestX1Drawn(t *testing.T) {
	r := rand.New(rand.NewSource(1))
	for _, p := range allPrimes() {
		for range 20 {
			inputs := draw(r, p, r.Intn(6))
			gates := drawGates(r, p, r.Intn(16), len(inputs))
			askClear(t, p, gates, inputs, wantClear(p, gates, inputs), api.OK)
		}
	}
}

func TestX1Limits(t *testing.T) {
	inputs := slices.Repeat([]int64{6}, api.MaxGates)
	gates := slices.Repeat([]api.Gate{{Kind: api.GInput, A: api.MaxGates - 1}}, api.MaxGates)
	askClear(t, 7, gates, inputs, inputs, api.OK)
	askClear(t, 7, gates[:1], inputs, []int64{6}, api.OK)
	last := slices.Concat(gates[:59], []api.Gate{{Kind: api.GMul, A: 58, B: 57}})
	askClear(t, 7, last, inputs, slices.Concat(inputs[:59], []int64{1}), api.OK)
	askBoth(t, 7, slices.Concat(gates[:59], []api.Gate{{Kind: api.GMul, A: 59, B: 57}}), inputs, api.ErrArg)
	askBoth(t, 7, slices.Concat(gates[:59], []api.Gate{{Kind: api.GMul, A: 58, B: 59}}), inputs, api.ErrArg)
	askBoth(t, 7, gates, inputs[:59], api.ErrArg)
	// ErrLarge is told ahead of all that is wrong with the numbers and the gates.
	for _, many := range [][]api.Gate{append(slices.Clone(gates), gates[0]), make([]api.Gate, 61), make([]api.Gate, 5000), slices.Repeat([]api.Gate{{Kind: api.GConst, N: 9}}, 61)} {
		askBoth(t, 7, many, inputs, api.ErrLarge)
		askBoth(t, 7, many, nil, api.ErrLarge)
		askBoth(t, 7, many, []int64{-1}, api.ErrLarge)
		askBoth(t, 7, many, make([]int64, 61), api.ErrLarge)
	}
	for _, many := range [][]int64{make([]int64, 61), slices.Repeat([]int64{7}, 61), make([]int64, 5000), slices.Repeat(far, 7)} {
		askBoth(t, 7, nil, many, api.ErrLarge)
		askBoth(t, 7, gates, many, api.ErrLarge)
		askBoth(t, 7, []api.Gate{{}}, many, api.ErrLarge)
	}
}

// What is wrong with p is told ahead of all else.
func TestX1Primes(t *testing.T) {
	for _, gates := range [][]api.Gate{nil, example, {{}}, make([]api.Gate, 61)} {
		for _, inputs := range [][]int64{nil, {0}, {-1}, make([]int64, 61)} {
			for _, p := range farPrimes {
				askBoth(t, p, gates, inputs, api.ErrRange)
			}
			for _, p := range noPrimes {
				askBoth(t, p, gates, inputs, api.ErrArg)
			}
		}
	}
	for p := int64(-300); p <= 600; p++ {
		wrong := wantPrime(p)
		if wrong == api.OK {
			askClear(t, p, example, []int64{1}, []int64{1, 1}, api.OK)
		} else {
			askClear(t, p, example, []int64{1}, nil, wrong)
		}
	}
}

// An input that is out of bounds is told though no gate needs it, and ahead of what is wrong with the gates.
func TestX1Inputs(t *testing.T) {
	for _, p := range []int64{2, 3, 7, 251} {
		for _, no := range append(far, p) {
			for at := range 5 {
				inputs := make([]int64, 5)
				inputs[at] = no
				for _, gates := range [][]api.Gate{nil, {{Kind: api.GInput, A: (at + 1) % 5}}, {{Kind: api.GInput, A: at}}, {{Kind: 9}}, {{Kind: api.GMul}}, {{Kind: api.GConst, N: -1}}} {
					askBoth(t, p, gates, inputs, api.ErrRange)
				}
			}
		}
	}
}

// badGates: gates behind two others, with two inputs, by 7, and what is wrong with each.
func badGates() map[api.Gate]api.Errno {
	bad := map[api.Gate]api.Errno{}
	for _, kind := range []int{0, -1, 5, 6, 1<<32 + 1, math.MaxInt, math.MinInt} {
		bad[api.Gate{Kind: kind}] = api.ErrKind
		bad[api.Gate{Kind: kind, A: -1, B: -1, N: -1}] = api.ErrKind
	}
	for _, at := range append(farPlaces, 2, 3) {
		bad[api.Gate{Kind: api.GInput, A: at}] = api.ErrArg
		for _, kind := range []int{api.GAdd, api.GMul} {
			for _, other := range []int{0, 1, at} {
				bad[api.Gate{Kind: kind, A: at, B: other}] = api.ErrArg
				bad[api.Gate{Kind: kind, A: other, B: at}] = api.ErrArg
			}
		}
	}
	for _, n := range append(far, 7, 8, 14) {
		bad[api.Gate{Kind: api.GConst, N: n}] = api.ErrRange
	}
	return bad
}

// Of several gates the first one that is wrong is told, whatever is wrong with others.
func TestX1FirstGate(t *testing.T) {
	one, two := api.Gate{Kind: api.GConst, N: 1}, api.Gate{Kind: api.GInput, A: 1}
	for g, wrong := range badGates() {
		askBoth(t, 7, []api.Gate{one, two, g}, []int64{1, 2}, wrong)
		for h := range badGates() {
			for _, gates := range [][]api.Gate{{one, two, g, h}, {two, one, g, one, h}} {
				if v, e := parts.Clear(7, gates, []int64{1, 2}); len(v) != 0 || e != wrong {
					t.Fatalf("Clear(7, %v, ..) = %v, %d; want %d", gates, v, e, wrong)
				}
			}
		}
	}
}

// What a kind does not need may be anything.
func TestX1NotLookedAt(t *testing.T) {
	for _, n := range far {
		for _, a := range farPlaces {
			for _, b := range farPlaces {
				gates := []api.Gate{{Kind: api.GInput, B: b, N: n}, {Kind: api.GConst, A: a, B: b, N: 5}, {Kind: api.GAdd, A: 0, B: 1, N: n}, {Kind: api.GMul, A: 0, B: 1, N: n}}
				askClear(t, 7, gates, []int64{3}, []int64{3, 5, 1, 1}, api.OK)
				askPlay(t, 7, 0, gates, []int64{3}, nil, [][]int64{{3}, {5}, {1}, {1}}, api.OK)
			}
		}
	}
}

func TestX2Named(t *testing.T) {
	askPlay(t, 7, 1, example[:1], []int64{3}, []int64{2}, [][]int64{{5, 0, 2}}, api.OK)
	// The products of the shares are 4, 0, 4; shared with 1, 4, 6 they are 5 6 0, 4 1 5, 3 2 1; and the Xs have 3, 4, 1.
	askPlay(t, 7, 1, example, []int64{3}, []int64{2, 1, 4, 6}, [][]int64{{5, 0, 2}, {6, 3, 0}}, api.OK)
	askPlay(t, 7, 1, example[:1], []int64{3}, nil, [][]int64{{3, 3, 3}}, api.OK)
	askPlay(t, 7, 0, example, []int64{3}, []int64{2}, [][]int64{{3}, {2}}, api.OK)
	askPlay(t, 7, 2, example[:1], []int64{3}, []int64{2, 1}, [][]int64{{6, 4, 4, 6, 3}}, api.OK)
	askPlay(t, 7, 2, example[:1], []int64{3}, []int64{2}, [][]int64{{5, 0, 2, 4, 6}}, api.OK)
	askPlay(t, 7, 1, []api.Gate{{Kind: api.GConst, N: 4}, {Kind: api.GAdd}}, nil, []int64{2}, [][]int64{{4, 4, 4}, {1, 1, 1}}, api.OK)
	askPlay(t, 7, 1, []api.Gate{{Kind: api.GInput}, {Kind: api.GInput}, {Kind: api.GAdd, B: 1}}, []int64{3}, []int64{2, 4}, [][]int64{{5, 0, 2}, {0, 4, 1}, {5, 4, 3}}, api.OK)
	askPlay(t, 2, 0, []api.Gate{{Kind: api.GConst, N: 1}, {Kind: api.GMul}}, nil, nil, [][]int64{{1}, {1}}, api.OK)
	askPlay(t, 7, 1, nil, nil, nil, nil, api.OK)
	askPlay(t, 7, 1, nil, nil, []int64{1, 2, 3}, nil, api.OK)
	askPlay(t, 7, 1, example, []int64{3}, []int64{7}, nil, api.ErrRange)
	askPlay(t, 7, 3, example, []int64{3}, nil, nil, api.ErrRange)
	askPlay(t, 7, -1, example, []int64{3}, nil, nil, api.ErrRange)
}

// Each circuit of a few gates that have all kinds, with all that may be drawn.
func TestX2AllDrawn(t *testing.T) {
	gates := []api.Gate{{Kind: api.GInput}, {Kind: api.GMul}, {Kind: api.GInput, A: 1}, {Kind: api.GAdd, A: 1, B: 2}, {Kind: api.GConst, N: 2}}
	for _, inputs := range lists(5, 2) {
		for _, random := range lists(5, 5) {
			want := wantPlay(5, 1, gates, inputs, random)
			if s, e := parts.Play(5, 1, gates, inputs, random); e != api.OK || !sameRows(s, want) {
				t.Fatalf("Play(5, 1, %v, %v, %v) = %v, %d; want %v", gates, inputs, random, s, e, want)
			}
		}
	}
}

// How many numbers are there makes no difference but for the zeros in place of those that are missing.
func TestX2Drawn(t *testing.T) {
	r := rand.New(rand.NewSource(2))
	for _, p := range allPrimes() {
		for n := range mostPlayed(p) + 1 {
			for range 4 {
				inputs := draw(r, p, r.Intn(6))
				gates := drawGates(r, p, r.Intn(12), len(inputs))
				for _, count := range []int{0, 1, r.Intn(60), 2000} {
					random := draw(r, p, count)
					askPlay(t, p, n, gates, inputs, random, wantPlay(p, n, gates, inputs, random), api.OK)
				}
			}
		}
	}
}

// The list of numbers may end in the midst of what one party shares.
func TestX2RandomEnds(t *testing.T) {
	r := rand.New(rand.NewSource(3))
	gates := append(slices.Clone(example), api.Gate{Kind: api.GInput})
	for n := range 5 {
		all := draw(r, 251, n*(2*n+3)+3)
		for count := range len(all) + 1 {
			askPlay(t, 251, n, gates, []int64{200}, all[:count], wantPlay(251, n, gates, []int64{200}, all[:count]), api.OK)
			zeros := slices.Concat(all[:count], make([]int64, len(all)))
			askPlay(t, 251, n, gates, []int64{200}, zeros, wantPlay(251, n, gates, []int64{200}, all[:count]), api.OK)
		}
	}
}

// Of the shares of each gate comes its value, and t + 1 parties would do: so what was drawn anew has brought the degree down.
func TestX2Opened(t *testing.T) {
	r := rand.New(rand.NewSource(4))
	for _, p := range allPrimes() {
		for n := range mostPlayed(p) + 1 {
			inputs := draw(r, p, 4)
			gates := drawGates(r, p, 20, 4)
			values := wantClear(p, gates, inputs)
			s, e := parts.Play(p, n, gates, inputs, draw(r, p, 3000))
			if e != api.OK || len(s) != len(gates) {
				t.Fatal(p, n, e)
			}
			for i, row := range s {
				askOpen(t, p, n, row, values[i], api.OK)
				if len(row) != 2*n+1 || !inside(p, row) || wantOpen(p, row[:n+1]) != values[i] {
					t.Errorf("by %d, the shares of gate %d are %v; its value is %d", p, i, row, values[i])
				}
			}
		}
	}
}

// Whichever the input is, each share of it, and of its square, is there as often.
func TestX2TellsNothing(t *testing.T) {
	for input := range int64(5) {
		for party := range 3 {
			seen := map[[2]int64]int{}
			for _, random := range lists(5, 4) {
				s, e := parts.Play(5, 1, example, []int64{input}, random)
				if e != api.OK {
					t.Fatal(e)
				}
				seen[[2]int64{s[0][party], s[1][party]}]++
			}
			for what, times := range seen {
				if len(seen) != 25 || times != 25 {
					t.Errorf("the input %d: the party %d has %v %d times", input, party, what, times)
				}
			}
		}
	}
}

func TestX2Limits(t *testing.T) {
	r := rand.New(rand.NewSource(5))
	gates := slices.Concat(example, slices.Repeat([]api.Gate{{Kind: api.GMul, A: 1, B: 0}}, 29), slices.Repeat([]api.Gate{{Kind: api.GMul, A: 29, B: 17}}, 29))
	inputs := slices.Repeat([]int64{250}, api.MaxGates)
	for n := range 5 {
		random := draw(r, 251, 60*9*4+1)
		askPlay(t, 251, n, gates, inputs, random, wantPlay(251, n, gates, inputs, random), api.OK)
		random = slices.Repeat([]int64{250}, 5000)
		askPlay(t, 251, n, gates, inputs, random, wantPlay(251, n, gates, inputs, random), api.OK)
	}
}

// By each prime, t may be what leaves the parties fewer than the prime, and at most MaxParts.
func TestX2Parties(t *testing.T) {
	for _, p := range allPrimes() {
		for n := -12; n <= 300; n++ {
			wants, wrong := wantPlay(p, max(0, min(n, mostPlayed(p))), example, []int64{1}, []int64{1}), api.OK
			if n < 0 || 2*n+1 > 9 || int64(2*n+1) >= p {
				wants, wrong = nil, api.ErrRange
			}
			askPlay(t, p, n, example, []int64{1}, []int64{1}, wants, wrong)
		}
		for _, n := range farParties {
			askPlay(t, p, n, example, []int64{1}, []int64{1}, nil, api.ErrRange)
			askPlay(t, p, n, nil, nil, nil, nil, api.ErrRange)
		}
	}
}

// A number of random is told though nobody takes it.
func TestX2Random(t *testing.T) {
	for _, p := range []int64{2, 3, 7, 251} {
		for n := range mostPlayed(p) + 1 {
			for _, no := range append(far, p) {
				for _, at := range []int{0, 1, 3, 4, 99} {
					random := make([]int64, 100)
					random[at] = no
					askPlay(t, p, n, example, []int64{1}, random, nil, api.ErrRange)
					askPlay(t, p, n, example, []int64{1}, random[:at+1], nil, api.ErrRange)
					askPlay(t, p, n, nil, nil, random, nil, api.ErrRange)
				}
			}
		}
	}
}

func TestX3Named(t *testing.T) {
	askOpen(t, 7, 1, []int64{5, 0, 2}, 3, api.OK)
	askOpen(t, 7, 1, []int64{6, 3, 0}, 2, api.OK)
	askOpen(t, 7, 1, []int64{4, 0, 4}, 2, api.OK)
	askOpen(t, 7, 1, []int64{0, 0, 0}, 0, api.OK)
	askOpen(t, 7, 0, []int64{5}, 5, api.OK)
	askOpen(t, 2, 0, []int64{1}, 1, api.OK)
	askOpen(t, 7, 1, []int64{5, 0}, 0, api.ErrForm)
	askOpen(t, 7, 1, []int64{5, 0, 2, 4}, 0, api.ErrForm)
	askOpen(t, 7, 0, nil, 0, api.ErrForm)
	askOpen(t, 7, 1, []int64{5, 0, 7}, 0, api.ErrRange)
	askOpen(t, 7, 3, []int64{5, 0, 2, 4, 6, 1, 3}, 0, api.ErrRange)
	askOpen(t, 9, 1, []int64{5, 0, 2}, 0, api.ErrArg)
}

// All lists of shares, whether they came of one value or not.
func TestX3AllSmall(t *testing.T) {
	for p, n := range map[int64]int{2: 0, 3: 0, 5: 1, 7: 1} {
		for count := range 5 {
			for _, shares := range lists(p, count) {
				if count == 2*n+1 {
					askOpen(t, p, n, shares, wantOpen(p, shares), api.OK)
				} else {
					askOpen(t, p, n, shares, 0, api.ErrForm)
				}
			}
		}
	}
}

func TestX3Drawn(t *testing.T) {
	r := rand.New(rand.NewSource(6))
	for _, p := range allPrimes() {
		for n := range mostPlayed(p) + 1 {
			for range 10 {
				shares := draw(r, p, 2*n+1)
				askOpen(t, p, n, shares, wantOpen(p, shares), api.OK)
			}
			most := slices.Repeat([]int64{p - 1}, 2*n+1)
			askOpen(t, p, n, most, p-1, api.OK)
			for count := range 30 {
				if count != 2*n+1 {
					askOpen(t, p, n, make([]int64, count), 0, api.ErrForm)
				}
			}
		}
	}
}

// A share out of bounds is told ahead of how many there are.
func TestX3Refused(t *testing.T) {
	for _, p := range []int64{2, 3, 5, 7, 251} {
		for n := range mostPlayed(p) + 1 {
			for _, no := range append(far, p) {
				for count := 1; count <= 12; count++ {
					for at := range count {
						shares := make([]int64, count)
						shares[at] = no
						askOpen(t, p, n, shares, 0, api.ErrRange)
					}
				}
			}
		}
	}
}

func TestX3Parties(t *testing.T) {
	for _, p := range allPrimes() {
		for n := -12; n <= 150; n++ {
			want, wrong := int64(1), api.OK
			if n < 0 || 2*n+1 > 9 || int64(2*n+1) >= p {
				want, wrong = 0, api.ErrRange
			}
			askOpen(t, p, n, slices.Repeat([]int64{1}, max(0, 2*n+1)), want, wrong)
		}
		for _, n := range farParties {
			for count := range 12 {
				askOpen(t, p, n, slices.Repeat([]int64{1}, count), 0, api.ErrRange)
			}
		}
	}
}

// What is wrong with p is told ahead of all else.
func TestX3Primes(t *testing.T) {
	for _, n := range []int{0, 1, 4, 5, -1, math.MaxInt, math.MinInt} {
		for _, shares := range [][]int64{nil, {1}, {1, 1, 1}, {-1}, {500, 500, 500}, make([]int64, 5000)} {
			for _, p := range farPrimes {
				askOpen(t, p, n, shares, 0, api.ErrRange)
			}
			for _, p := range noPrimes {
				askOpen(t, p, n, shares, 0, api.ErrArg)
			}
		}
	}
}
