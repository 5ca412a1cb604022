package feistel_test

import (
	"math"
	"math/rand"
	"slices"
	"testing"

	"lockwright/api"
	"lockwright/feistel"
)

const (
	half  = 16
	whole = 256
	// mark stands behind the rounds that are handed in, and in the rounds behind the last one.
	mark = -77
)

// farHalves: what no round may have.
var farHalves = []int{-1, -2, -15, -16, -17, 16, 17, 31, 32, 255, 256, 1 << 16, math.MaxInt32, math.MinInt32, 1 << 32, 1<<32 + 1, math.MaxInt, math.MinInt, math.MinInt + 1}

// farNumbers: what has no two halves.
var farNumbers = []int{-1, -2, -15, -16, -17, -255, -256, -257, 256, 257, 511, 512, 1 << 16, math.MaxInt32, math.MinInt32, 1 << 32, 1<<32 + 1, 1<<32 + 255, math.MaxInt, math.MinInt, math.MinInt + 1}

// round answers the one that has at each place what at tells.
func round(at func(place int) int) []int {
	list := make([]int, half)
	for place := range list {
		list[place] = at(place)
	}
	return list
}

func flat(n int) []int { return slices.Repeat([]int{n}, half) }

// spot: 0, but for n at one place.
func spot(place, n int) []int {
	list := make([]int, half)
	list[place] = n
	return list
}

func drawn(r *rand.Rand, many int) [][]int {
	rounds := make([][]int, many)
	for i := range rounds {
		rounds[i] = round(func(int) int { return r.Intn(half) })
	}
	return rounds
}

func cloned(rounds [][]int) [][]int {
	out := make([][]int, len(rounds))
	for i, list := range rounds {
		out[i] = slices.Clone(list)
	}
	return out
}

// guarded lays the rounds into longer memory, each of them too, and answers them with what asks whether all of that is still as it was.
func guarded(rounds [][]int) ([][]int, func() bool) {
	memory := append(cloned(rounds), []int{mark}, nil, flat(3))
	var before [][]int
	for i, list := range memory {
		longer := slices.Concat(list, []int{mark, 0, 1, mark})
		before = append(before, slices.Clone(longer))
		memory[i] = longer[:len(list)]
	}
	lengths := cloned(memory)
	same := func() bool {
		for i, list := range memory {
			if len(list) != len(lengths[i]) || !slices.Equal(list[:len(before[i])], before[i]) {
				return false
			}
		}
		return true
	}
	return memory[:len(rounds)], same
}

// either: the bits of which just one of a and b has one, bit by bit.
func either(a, b int) int {
	out := 0
	for bit := 1; bit < half; bit *= 2 {
		if a/bit%2+b/bit%2 == 1 {
			out += bit
		}
	}
	return out
}

// wantTable answers what each number becomes: two halves, written down and turned round by round.
func wantTable(rounds [][]int) [whole]int {
	var out [whole]int
	for x := range out {
		halves := [2]int{x / half, x % half}
		for _, list := range rounds {
			halves = [2]int{halves[1], either(halves[0], list[halves[1]])}
		}
		out[x] = halves[0]*half + halves[1]
	}
	return out
}

// then: first one table, then another one.
func then(first, next [whole]int) [whole]int {
	var out [whole]int
	for x := range out {
		out[x] = next[first[x]]
	}
	return out
}

// counted goes through the powers of a table until all numbers are given back, or until there were too many.
func counted(table [whole]int, most int64) (int64, bool) {
	still := wantTable(nil)
	k := int64(1)
	for now := table; now != still; now = then(now, table) {
		if k++; k > most {
			return 0, false
		}
	}
	return k, true
}

// times answers the table k times, one on the other.
func times(table [whole]int, k int64) [whole]int {
	out := wantTable(nil)
	for ; k > 0; k /= 2 {
		if k%2 == 1 {
			out = then(out, table)
		}
		table = then(table, table)
	}
	return out
}

// isOrder tells whether k times gives back each number, while no less often does: that would be so k / p times, too, of some prime p of k. No round trip is longer than whole, so no such p is greater.
func isOrder(table [whole]int, k int64) bool {
	still := wantTable(nil)
	if k < 1 || times(table, k) != still {
		return false
	}
	for p := int64(2); p <= whole; p++ {
		if k%p == 0 && times(table, k/p) == still {
			return false
		}
	}
	return true
}

func askSeal(t *testing.T, rounds [][]int, x, want int, wrong api.Errno) {
	t.Helper()
	given, same := guarded(rounds)
	if y, e := feistel.Seal(given, x); y != want || e != wrong {
		t.Errorf("Seal(%v, %d) = %d, %d; want %d, %d", rounds, x, y, e, want, wrong)
	}
	if !same() {
		t.Errorf("Seal(%v, %d) changed what was given", rounds, x)
	}
}

func askOpen(t *testing.T, rounds [][]int, y, want int, wrong api.Errno) {
	t.Helper()
	given, same := guarded(rounds)
	if x, e := feistel.Open(given, y); x != want || e != wrong {
		t.Errorf("Open(%v, %d) = %d, %d; want %d, %d", rounds, y, x, e, want, wrong)
	}
	if !same() {
		t.Errorf("Open(%v, %d) changed what was given", rounds, y)
	}
}

func askOrder(t *testing.T, rounds [][]int, want int64, wrong api.Errno) {
	t.Helper()
	given, same := guarded(rounds)
	if k, e := feistel.Order(given); k != want || e != wrong {
		t.Errorf("Order(%v) = %d, %d; want %d, %d", rounds, k, e, want, wrong)
	}
	if !same() {
		t.Errorf("Order(%v) changed what was given", rounds)
	}
}

// askGood asks of every number, there and back, and of the order.
func askGood(t *testing.T, rounds [][]int) {
	t.Helper()
	table := wantTable(rounds)
	given, same := guarded(rounds)
	for x, want := range table {
		if y, e := feistel.Seal(given, x); y != want || e != api.OK {
			t.Errorf("Seal(%v, %d) = %d, %d; want %d", rounds, x, y, e, want)
		}
		if back, e := feistel.Open(given, want); back != x || e != api.OK {
			t.Errorf("Open(%v, %d) = %d, %d; want %d", rounds, want, back, e, x)
		}
	}
	if k, e := feistel.Order(given); !isOrder(table, k) || e != api.OK {
		t.Errorf("Order(%v) = %d, %d", rounds, k, e)
	}
	if !same() {
		t.Errorf("what was given was changed: %v", rounds)
	}
}

// askBad asks all three calls of what are no rounds: numbers that would be wrong by themselves change nothing of what is told.
func askBad(t *testing.T, rounds [][]int, wrong api.Errno) {
	t.Helper()
	askOrder(t, rounds, 0, wrong)
	for _, x := range append([]int{0, 1, 18, 33, 255}, farNumbers...) {
		askSeal(t, rounds, x, 0, wrong)
		askOpen(t, rounds, x, 0, wrong)
	}
}

// Every number of rounds, within the limit and beyond it.
func TestN1Large(t *testing.T) {
	r := rand.New(rand.NewSource(31))
	for many := range api.MaxLines + 1 {
		askGood(t, drawn(r, many))
	}
	for _, many := range []int{65, 66, 100, 128, 256} {
		askBad(t, slices.Repeat([][]int{flat(0)}, many), api.ErrLarge)
	}
	many := slices.Repeat([][]int{flat(0)}, 1<<16)
	askSeal(t, many, 18, 0, api.ErrLarge)
	askOpen(t, many, 18, 0, api.ErrLarge)
	askOrder(t, many, 0, api.ErrLarge)
}

// Too many rounds are told ahead of what is wrong with them.
func TestN1LargeFirst(t *testing.T) {
	askBad(t, make([][]int, 65), api.ErrLarge)
	askBad(t, slices.Repeat([][]int{{1, 2}}, 65), api.ErrLarge)
	askBad(t, slices.Repeat([][]int{flat(-1)}, 65), api.ErrLarge)
	for _, bad := range [][]int{nil, {1}, flat(16), make([]int, 17), flat(-1)[:15]} {
		for _, at := range []int{0, 1, 63, 64} {
			rounds := slices.Repeat([][]int{flat(1)}, 65)
			rounds[at] = bad
			askBad(t, rounds, api.ErrLarge)
		}
	}
}

// A round that has not 16 numbers is told wherever it stands, ahead of numbers out of bounds.
func TestN1Form(t *testing.T) {
	askBad(t, [][]int{nil}, api.ErrForm)
	askBad(t, [][]int{{}}, api.ErrForm)
	askBad(t, [][]int{{1, 2, 3}}, api.ErrForm)
	askBad(t, make([][]int, 64), api.ErrForm)
	askBad(t, [][]int{make([]int, 1<<16)}, api.ErrForm)
	for long := range 40 {
		if long == half {
			continue
		}
		for _, many := range []int{1, 2, 5, 64} {
			for _, at := range []int{0, many / 2, many - 1} {
				rounds := slices.Repeat([][]int{flat(9)}, many)
				rounds[at] = make([]int, long)
				askOrder(t, rounds, 0, api.ErrForm)
				askSeal(t, rounds, 18, 0, api.ErrForm)
				askOpen(t, rounds, 18, 0, api.ErrForm)
				rounds[at] = slices.Repeat([]int{-1}, long)
				askBad(t, rounds, api.ErrForm)
				rounds[(at+1)%many] = flat(-1)
				rounds[at] = make([]int, long)
				askBad(t, rounds, api.ErrForm)
			}
		}
	}
}

// A number of a round that is out of bounds is told wherever it stands, whether it would be asked for or not.
func TestN1Range(t *testing.T) {
	for _, far := range farHalves {
		for place := range half {
			askBad(t, [][]int{spot(place, far)}, api.ErrRange)
			for _, many := range []int{2, 3, 64} {
				for _, at := range []int{0, many / 2, many - 1} {
					rounds := slices.Repeat([][]int{flat(5)}, many)
					rounds[at] = spot(place, far)
					askOrder(t, rounds, 0, api.ErrRange)
					askSeal(t, rounds, 18, 0, api.ErrRange)
					askOpen(t, rounds, 18, 0, api.ErrRange)
				}
			}
		}
		askBad(t, [][]int{flat(far)}, api.ErrRange)
		askBad(t, [][]int{flat(0), flat(far), flat(1)}, api.ErrRange)
	}
}

// Each number from 0 to 15 may stand at each place, and no other.
func TestN1Halves(t *testing.T) {
	for n := -40; n <= 300; n++ {
		if n >= 0 && n < half {
			askGood(t, [][]int{flat(n)})
		} else {
			askBad(t, [][]int{flat(n)}, api.ErrRange)
		}
	}
}

func TestN1Numbers(t *testing.T) {
	r := rand.New(rand.NewSource(32))
	for _, rounds := range [][][]int{nil, {}, {flat(0)}, {flat(15)}, drawn(r, 1), drawn(r, 2), drawn(r, 63), drawn(r, 64)} {
		for _, x := range farNumbers {
			askSeal(t, rounds, x, 0, api.ErrRange)
			askOpen(t, rounds, x, 0, api.ErrRange)
		}
		for x := -700; x <= 1000; x++ {
			if x < 0 || x > 255 {
				askSeal(t, rounds, x, 0, api.ErrRange)
				askOpen(t, rounds, x, 0, api.ErrRange)
			}
		}
	}
}

func TestN2Named(t *testing.T) {
	zero := [][]int{flat(0)}
	askSeal(t, zero, 18, 33, api.OK)
	askOpen(t, zero, 33, 18, api.OK)
	askOrder(t, zero, 2, api.OK)
	// The halves 1 and 2 become 2, and 1 with what stands at 2.
	two := [][]int{spot(2, 5)}
	askSeal(t, two, 18, 36, api.OK)
	askOpen(t, two, 36, 18, api.OK)
	askSeal(t, two, 33, 18, api.OK)
	askSeal(t, two, 255, 255, api.OK)
	askSeal(t, [][]int{flat(15)}, 0, 15, api.OK)
	askSeal(t, [][]int{flat(15)}, 255, 240, api.OK)
	// The bits of which both have one go.
	askSeal(t, [][]int{flat(6)}, 3*16+9, 9*16+5, api.OK)
	askOpen(t, [][]int{flat(6)}, 9*16+5, 3*16+9, api.OK)
	// Each half its own: behind three rounds the halves l and r, that are r and l ^ r, then l ^ r and l, are back.
	self := round(func(place int) int { return place })
	askSeal(t, [][]int{self}, 18, 35, api.OK)
	askSeal(t, [][]int{self, self}, 18, 49, api.OK)
	askSeal(t, [][]int{self, self, self}, 18, 18, api.OK)
	askOrder(t, [][]int{self}, 3, api.OK)
	askOrder(t, [][]int{self, self}, 3, api.OK)
	askOrder(t, [][]int{self, self, self}, 1, api.OK)
	askOrder(t, [][]int{flat(15)}, 4, api.OK)
	askOrder(t, [][]int{flat(0), flat(0)}, 1, api.OK)
	askOrder(t, [][]int{flat(0), flat(1)}, 2, api.OK)
}

// Of no rounds each number stays what it is.
func TestN2NoRounds(t *testing.T) {
	for _, rounds := range [][][]int{nil, {}, [][]int{flat(1)}[:0]} {
		for x := range whole {
			askSeal(t, rounds, x, x, api.OK)
			askOpen(t, rounds, x, x, api.OK)
		}
		askOrder(t, rounds, 1, api.OK)
	}
}

// The rounds are gone through in their order.
func TestN2Order(t *testing.T) {
	first, next := spot(2, 5), spot(4, 7)
	askSeal(t, [][]int{first, next}, 18, 4*16+5, api.OK)
	askSeal(t, [][]int{next, first}, 18, 1*16+2, api.OK)
	askOpen(t, [][]int{first, next}, 4*16+5, 18, api.OK)
	askOpen(t, [][]int{next, first}, 1*16+2, 18, api.OK)
}

// Each number at each place, of each number: in one round, and between others.
func TestN2EachPlace(t *testing.T) {
	r := rand.New(rand.NewSource(33))
	for place := range half {
		for n := range half {
			askGood(t, [][]int{spot(place, n)})
			askGood(t, slices.Concat(drawn(r, r.Intn(4)), [][]int{spot(place, n)}, drawn(r, r.Intn(4))))
		}
	}
}

func TestN2Drawn(t *testing.T) {
	r := rand.New(rand.NewSource(34))
	for range 12 {
		for many := range api.MaxLines + 1 {
			askGood(t, drawn(r, many))
		}
	}
	for range 2000 {
		askGood(t, drawn(r, 1+r.Intn(3)))
	}
}

// One list may stand for many rounds.
func TestN2SameList(t *testing.T) {
	r := rand.New(rand.NewSource(35))
	for many := 1; many <= api.MaxLines; many++ {
		list := drawn(r, 1)[0]
		rounds := slices.Repeat([][]int{list}, many)
		before := slices.Clone(list)
		table := wantTable(rounds)
		for x, want := range table {
			if y, e := feistel.Seal(rounds, x); y != want || e != api.OK {
				t.Errorf("Seal of %d times %v, %d = %d, %d; want %d", many, list, x, y, e, want)
			}
			if back, e := feistel.Open(rounds, want); back != x || e != api.OK {
				t.Errorf("Open of %d times %v, %d = %d, %d; want %d", many, list, want, back, e, x)
			}
		}
		if k, e := feistel.Order(rounds); !isOrder(table, k) || e != api.OK {
			t.Errorf("Order of %d times %v = %d, %d", many, list, k, e)
		}
		if !slices.Equal(list, before) {
			t.Errorf("%v became %v", before, list)
		}
	}
}

// Small orders are counted out, power by power.
func TestN2CountedOut(t *testing.T) {
	r := rand.New(rand.NewSource(36))
	small := 0
	for range 4000 {
		// Rounds there, some in the middle, and the same rounds back: most such orders are small.
		there := drawn(r, r.Intn(4))
		back := slices.Clone(there)
		slices.Reverse(back)
		rounds := slices.Concat(there, [][]int{flat(r.Intn(half)), spot(r.Intn(half), r.Intn(half))}[:r.Intn(3)], back)
		if want, ok := counted(wantTable(rounds), 2000); ok {
			small++
			askOrder(t, rounds, want, api.OK)
		}
	}
	if small < 1000 {
		t.Errorf("only %d orders were counted out", small)
	}
}

// A round of n alone swaps the halves, and turns the bits of n in one of them: two such rounds turn each half in its place.
func TestN2Swaps(t *testing.T) {
	for n := range half {
		for m := range half {
			want := int64(2)
			if n == 0 && m == 0 {
				want = 1
			}
			askOrder(t, [][]int{flat(n), flat(m)}, want, api.OK)
			want = 4
			if n == 0 {
				want = 2
			}
			askOrder(t, [][]int{flat(n)}, want, api.OK)
		}
	}
}

// An order may be more than MaxNum.
func TestN2GreatOrders(t *testing.T) {
	great := []struct {
		list  []int
		order int64
	}{
		{[]int{2, 9, 13, 9, 14, 15, 11, 14, 0, 15, 4, 12, 15, 4, 14, 15}, 125896660769880},
		{[]int{12, 7, 0, 15, 8, 13, 5, 8, 2, 3, 11, 9, 9, 9, 9, 9}, 197351522287920},
		{[]int{9, 6, 12, 15, 5, 8, 14, 7, 10, 3, 0, 14, 14, 15, 6, 10}, 534293145706320},
	}
	for _, g := range great {
		rounds := [][]int{g.list}
		if !isOrder(wantTable(rounds), g.order) {
			t.Errorf("%d is not the order of %v", g.order, g.list)
		}
		askOrder(t, rounds, g.order, api.OK)
		askGood(t, rounds)
		// k times the same round: the order is divided by what k has in common with it.
		for k := int64(2); k <= api.MaxLines; k++ {
			common := k
			for k%common != 0 || g.order%common != 0 {
				common--
			}
			askOrder(t, slices.Repeat(rounds, int(k)), g.order/common, api.OK)
		}
	}
	r := rand.New(rand.NewSource(37))
	beyond := 0
	for range 3000 {
		rounds := drawn(r, 1)
		if k, _ := feistel.Order(rounds); k > api.MaxNum {
			beyond++
			askGood(t, rounds)
		}
	}
	if beyond == 0 {
		t.Error("no order drawn was beyond MaxNum")
	}
}

// What was hidden is found again, and no two numbers become the same one.
func TestN2ThereAndBack(t *testing.T) {
	r := rand.New(rand.NewSource(38))
	for many := range api.MaxLines + 1 {
		rounds := drawn(r, many)
		var came [whole]int
		for x := range whole {
			y, e := feistel.Seal(rounds, x)
			if e != api.OK || y < 0 || y >= whole {
				t.Fatalf("Seal(%v, %d) = %d, %d", rounds, x, y, e)
			}
			came[y]++
			if back, e := feistel.Open(rounds, y); back != x || e != api.OK {
				t.Errorf("Open(%v, %d) = %d, %d; want %d", rounds, y, back, e, x)
			}
			before, e := feistel.Open(rounds, x)
			if again, f := feistel.Seal(rounds, before); again != x || e != api.OK || f != api.OK {
				t.Errorf("Seal(%v, Open of %d) = %d, %d, %d", rounds, x, again, e, f)
			}
		}
		for y, n := range came {
			if n != 1 {
				t.Errorf("%d numbers become %d by %v", n, y, rounds)
			}
		}
	}
}

// Open is Seal by the rounds from the last one on, of the halves turned round, and turned round again.
func TestN2BackByHalves(t *testing.T) {
	r := rand.New(rand.NewSource(39))
	turn := func(n int) int { return n%half*half + n/half }
	for many := range api.MaxLines + 1 {
		rounds := drawn(r, many)
		back := slices.Clone(rounds)
		slices.Reverse(back)
		for y := range whole {
			want, e := feistel.Seal(back, turn(y))
			if e != api.OK {
				t.Fatalf("Seal(%v, %d) tells %d", back, turn(y), e)
			}
			askOpen(t, rounds, y, turn(want), api.OK)
		}
	}
}
