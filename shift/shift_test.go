package shift_test

import (
	"math"
	"math/rand"
	"slices"
	"strings"
	"testing"

	"lockwright/api"
	"lockwright/shift"
)

// farLengths: no row has so many bits.
var farLengths = []int{-1, -2, -63, -64, -65, 65, 66, 127, 128, 129, 255, 256, 1 << 16, math.MaxInt32, math.MinInt32, 1 << 32, 1<<32 + 1, 1<<32 + 64, math.MaxInt, math.MinInt, math.MinInt + 1}

// row answers the bits that a text of 0 and 1 names.
func row(text string) []bool {
	list := []bool{}
	for _, letter := range text {
		list = append(list, letter == '1')
	}
	return list
}

// text writes them down.
func text(list []bool) string {
	var b strings.Builder
	for _, bit := range list {
		b.WriteByte(map[bool]byte{false: '0', true: '1'}[bit])
	}
	return b.String()
}

// numbered answers the row of so many bits that has the number n, the first bit counting most: so rows come in their order.
func numbered(n, many int) []bool {
	list := make([]bool, many)
	for i := range list {
		list[i] = n/(1<<(many-1-i))%2 == 1
	}
	return list
}

// drawn answers a row of so many bits, of which about one of share is set.
func drawn(r *rand.Rand, many, share int) []bool {
	list := make([]bool, many)
	for i := range list {
		list[i] = r.Intn(share) == 0
	}
	return list
}

// guarded lays a row into longer memory, and answers it with what asks whether that is still as it was.
func guarded(list []bool, fill bool) ([]bool, func() bool) {
	longer := append(slices.Clone(list), fill, !fill, fill, fill, !fill, true, false)
	before := slices.Clone(longer)
	return longer[:len(list)], func() bool { return slices.Equal(longer, before) }
}

// wantBit: Q1's words of one bit: the number of taps that are set, and have a set bit as many places ahead.
func wantBit(taps, list []bool, place int) bool {
	many := 0
	for ahead := 1; ahead <= len(taps); ahead++ {
		if taps[ahead-1] && list[place-ahead] {
			many++
		}
	}
	return many%2 == 1
}

// makes tells whether the rule makes the list.
func makes(taps, list []bool) bool {
	for place := len(taps); place < len(list); place++ {
		if list[place] != wantBit(taps, list, place) {
			return false
		}
	}
	return true
}

// wantRun goes on bit by bit, behind all of first, and cuts off what is too much.
func wantRun(taps, first []bool, n int) []bool {
	list := slices.Clone(first)
	for len(list) < n {
		list = append(list, wantBit(taps, list, len(list)))
	}
	return list[:n]
}

// wantShort goes through all rules: those of few taps first, and those of as many by their order.
func wantShort(list []bool) []bool {
	for many := 0; ; many++ {
		for n := range 1 << many {
			if taps := numbered(n, many); makes(taps, list) {
				return taps
			}
		}
	}
}

// equation: which taps are asked, and whether an odd number of those is to be set.
type equation struct {
	taps uint64
	odd  bool
}

// equations answers what a rule of so many taps must hold to, which begins with these ones.
func equations(list, begin []bool, many int) []equation {
	var all []equation
	for place := many; place < len(list); place++ {
		one := equation{odd: list[place]}
		for ahead := 1; ahead <= many; ahead++ {
			if list[place-ahead] {
				one.taps |= 1 << (ahead - 1)
			}
		}
		all = append(all, one)
	}
	for i, tap := range begin {
		all = append(all, equation{1 << i, tap})
	}
	return all
}

// canMake tells whether a rule of so many taps that begins with these ones makes the list: tap by tap, from the first on, one equation is taken out of the others.
func canMake(list, begin []bool, many int) bool {
	all := equations(list, begin, many)
	for tap := range many {
		at := slices.IndexFunc(all, func(one equation) bool { return one.taps>>tap%2 == 1 })
		if at < 0 {
			continue
		}
		taken := all[at]
		all = slices.Delete(all, at, at+1)
		for i, one := range all {
			if one.taps>>tap%2 == 1 {
				all[i] = equation{one.taps ^ taken.taps, one.odd != taken.odd}
			}
		}
	}
	return !slices.ContainsFunc(all, func(one equation) bool { return one.odd })
}

// isShort tells whether the rule makes the list, while none with one tap less does, and none that has not set the tap where this one has the first one that differs. (One with still fewer taps would make it with a tap more, too, that is not set.)
func isShort(taps, list []bool) bool {
	if !makes(taps, list) || len(taps) > 0 && canMake(list, nil, len(taps)-1) {
		return false
	}
	for i, tap := range taps {
		if tap && canMake(list, append(slices.Clone(taps[:i]), false), len(taps)) {
			return false
		}
	}
	return true
}

func askRun(t *testing.T, taps, first []bool, n int, want []bool, wrong api.Errno) {
	t.Helper()
	for _, fill := range []bool{false, true} {
		given, same := guarded(taps, fill)
		begin, sameBegin := guarded(first, fill)
		list, e := shift.Run(given, begin, n)
		if !slices.Equal(list, want) || e != wrong {
			t.Errorf("Run(%s, %s, %d) = %s, %d; want %s, %d", text(taps), text(first), n, text(list), e, text(want), wrong)
		}
		spoil(list)
		if !same() || !sameBegin() {
			t.Errorf("Run(%s, %s, %d) changed or kept what was given", text(taps), text(first), n)
		}
	}
}

// spoil turns what was answered, and what lies behind it.
func spoil(list []bool) {
	list = list[:cap(list)]
	for i, bit := range list {
		list[i] = !bit
	}
}

// askRunGood asks for every n.
func askRunGood(t *testing.T, taps, first []bool) {
	t.Helper()
	for n := range api.MaxBits + 1 {
		askRun(t, taps, first, n, wantRun(taps, first, n), api.OK)
	}
}

// answered asks with either bit behind the row.
func answered(t *testing.T, l []bool) ([]bool, api.Errno) {
	t.Helper()
	var answers [2][]bool
	var wrong [2]api.Errno
	for i, fill := range []bool{false, true} {
		given, same := guarded(l, fill)
		taps, e := shift.Short(given)
		answers[i], wrong[i] = slices.Clone(taps), e
		spoil(taps)
		if !same() {
			t.Errorf("Short(%s) changed or kept what was given", text(l))
		}
	}
	if !slices.Equal(answers[0], answers[1]) || wrong[0] != wrong[1] {
		t.Errorf("Short(%s) = %s, %d, and then %s, %d", text(l), text(answers[0]), wrong[0], text(answers[1]), wrong[1])
	}
	return answers[0], wrong[0]
}

func askShort(t *testing.T, l, want []bool, wrong api.Errno) {
	t.Helper()
	if taps, e := answered(t, l); !slices.Equal(taps, want) || e != wrong {
		t.Errorf("Short(%s) = %s, %d; want %s, %d", text(l), text(taps), e, text(want), wrong)
	}
}

// askShortGood asks of a row of any length, and whether Run comes back to it.
func askShortGood(t *testing.T, l []bool) []bool {
	t.Helper()
	taps, e := answered(t, l)
	if len(taps) > len(l) || !isShort(taps, l) || e != api.OK {
		t.Errorf("Short(%s) = %s, %d", text(l), text(taps), e)
		return nil
	}
	askRun(t, taps, l[:len(taps)], len(l), l, api.OK)
	return taps
}

func TestQ1Named(t *testing.T) {
	askRun(t, row("11"), row("11"), 8, row("11011011"), api.OK)
	named := []struct{ taps, first, list string }{
		{"", "", "00000"},
		{"0", "1", "10000"}, {"1", "1", "11111"}, {"1", "0", "00000"},
		// The first tap is that of one place ahead, the last one of the farthest.
		{"10", "10", "10000"}, {"01", "10", "10101010"}, {"10", "01", "011111"}, {"01", "01", "01010101"},
		{"100", "001", "001111"}, {"001", "100", "100100100"}, {"001", "110", "110110110"}, {"010", "110", "110101010"},
		{"11", "01", "0110110"}, {"101", "001", "0011101001110"}, {"011", "001", "0010111001011"},
		{"111", "001", "001100110011"}, {"111", "111", "11111"}, {"1111", "1000", "100011000110001"},
		{"0011", "1000", "100010011010111100010"}, {"000", "111", "1110000"},
	}
	for _, w := range named {
		list := row(w.list)
		if !makes(row(w.taps), list) {
			t.Errorf("%s does not make %s", w.taps, w.list)
		}
		for n := range len(list) + 1 {
			askRun(t, row(w.taps), row(w.first), n, list[:n], api.OK)
		}
	}
}

// Every rule of up to five taps, with all that may stand first.
func TestQ1EveryFive(t *testing.T) {
	for many := range 6 {
		for rule := range 1 << many {
			for first := range 1 << many {
				askRunGood(t, numbered(rule, many), numbered(first, many))
			}
		}
	}
}

// Of each number of taps up to MaxBits: one tap alone, all of them, and drawn ones.
func TestQ1Long(t *testing.T) {
	r := rand.New(rand.NewSource(61))
	for many := range api.MaxBits + 1 {
		for range 4 {
			askRunGood(t, drawn(r, many, 2), drawn(r, many, 2))
			askRunGood(t, drawn(r, many, 8), drawn(r, many, 2))
		}
		full := slices.Repeat([]bool{true}, many)
		askRunGood(t, full, drawn(r, many, 2))
		askRunGood(t, drawn(r, many, 2), full)
		for tap := range many {
			taps := make([]bool, many)
			taps[tap] = true
			first := drawn(r, many, 2)
			askRun(t, taps, first, api.MaxBits, wantRun(taps, first, api.MaxBits), api.OK)
		}
	}
}

// Of no taps no number is odd: all bits are not set, whether the lists are nil or not.
func TestQ1NoTaps(t *testing.T) {
	for n := range api.MaxBits + 1 {
		want := make([]bool, n)
		askRun(t, nil, nil, n, want, api.OK)
		for _, none := range [][]bool{nil, {}} {
			for _, other := range [][]bool{nil, {}} {
				if list, e := shift.Run(none, other, n); !slices.Equal(list, want) || e != api.OK {
					t.Errorf("Run of no taps = %s, %d", text(list), e)
				}
			}
		}
	}
}

func TestQ1Large(t *testing.T) {
	r := rand.New(rand.NewSource(62))
	for _, many := range []int{0, 1, 2, 5, 63, 64} {
		taps, first := drawn(r, many, 2), drawn(r, many, 2)
		for _, n := range farLengths {
			askRun(t, taps, first, n, nil, api.ErrLarge)
		}
		for _, n := range []int{0, 1, 63, 64} {
			askRun(t, taps, first, n, wantRun(taps, first, n), api.OK)
		}
	}
	for _, many := range []int{65, 66, 127, 128, 129, 1000, 1 << 16} {
		for _, n := range []int{0, 1, 63, 64} {
			askRun(t, make([]bool, many), make([]bool, many), n, nil, api.ErrLarge)
			askRun(t, drawn(r, many, 2), drawn(r, many, 2), n, nil, api.ErrLarge)
		}
	}
}

// All other numbers of first bits but that of the taps are wrong, however few bits are asked for.
func TestQ1Form(t *testing.T) {
	for many := range api.MaxBits + 1 {
		for others := range api.MaxBits + 3 {
			if many == others {
				continue
			}
			for _, n := range []int{0, 1, min(many, others), max(many, others), 64} {
				if n <= api.MaxBits {
					askRun(t, make([]bool, many), make([]bool, others), n, nil, api.ErrForm)
				}
			}
		}
	}
	askRun(t, row("1"), nil, 4, nil, api.ErrForm)
	askRun(t, nil, row("1"), 4, nil, api.ErrForm)
	askRun(t, row("11"), make([]bool, 1<<16), 4, nil, api.ErrForm)
}

// What is too large is told ahead of what has not its form.
func TestQ1Order(t *testing.T) {
	for _, n := range farLengths {
		askRun(t, row("11"), row("1"), n, nil, api.ErrLarge)
		askRun(t, nil, row("1"), n, nil, api.ErrLarge)
		askRun(t, row("1"), make([]bool, 65), n, nil, api.ErrLarge)
		askRun(t, make([]bool, 65), nil, n, nil, api.ErrLarge)
	}
	for _, first := range []int{0, 1, 63, 64, 66} {
		for _, n := range []int{0, 1, 64} {
			askRun(t, make([]bool, 65), make([]bool, first), n, nil, api.ErrLarge)
		}
	}
}

// Two answers share nothing with each other, nor with the first bits, of which they may be all.
func TestQ1NewMemory(t *testing.T) {
	for n := range 9 {
		taps, first := row("0011"), row("1001")
		one, _ := shift.Run(taps, first, n)
		other, _ := shift.Run(taps, first, n)
		spoil(one)
		first[0], first[3] = false, false
		if !slices.Equal(other, row("100110101")[:n]) {
			t.Errorf("Run to %d became %s", n, text(other))
		}
	}
}

func TestQ2Named(t *testing.T) {
	askShort(t, row("11011011"), row("11"), api.OK)
	askShort(t, row("001"), row("000"), api.OK)
	named := []struct{ list, taps string }{
		{"", ""}, {"0", ""}, {"0000000", ""},
		{"1", "0"}, {"10", "0"}, {"1000000", "0"}, {"11", "1"}, {"1111111", "1"},
		{"01", "00"}, {"010", "00"}, {"011", "10"}, {"0101", "01"}, {"0110", "11"}, {"0100000", "00"},
		{"110", "00"}, {"101", "01"}, {"1100", "00"}, {"1101", "11"},
		// 1 comes back behind three places: by the taps 0, 0, 1.
		{"100100100", "001"}, {"0010111001011", "011"}, {"0011101001110", "101"},
		// What is odd of the last four bits, and what is odd of the two farthest.
		{"100011000110001", "1111"}, {"100010011010111100010", "0011"},
		// The last bit alone breaks the rule: of all taps none, where the bit is not set or nothing is ahead of it, else no more than it needs.
		{"1110", "000"}, {"11110", "0000"}, {"000001", "000000"}, {"111110", "00000"}, {"1001", "001"}, {"10001", "0001"}, {"01001", "001"}, {"11001", "011"},
	}
	for _, w := range named {
		if !isShort(row(w.taps), row(w.list)) {
			t.Errorf("%s is not the shortest rule of %s", w.taps, w.list)
		}
		askShort(t, row(w.list), row(w.taps), api.OK)
	}
	askShort(t, nil, nil, api.OK)
}

// Every row of up to thirteen bits, held against all rules.
func TestQ2EveryThirteen(t *testing.T) {
	for many := range 14 {
		for n := range 1 << many {
			list := numbered(n, many)
			want := wantShort(list)
			if !isShort(want, list) {
				t.Errorf("%s is not the shortest rule of %s", text(want), text(list))
			}
			askShort(t, list, want, api.OK)
		}
	}
}

// Drawn rows of each length up to MaxBits, of few bits and of many.
func TestQ2Long(t *testing.T) {
	r := rand.New(rand.NewSource(63))
	for many := range api.MaxBits + 1 {
		for _, share := range []int{2, 2, 2, 4, 10, 30} {
			for range 6 {
				list := drawn(r, many, share)
				askShortGood(t, list)
				for i, bit := range list {
					list[i] = !bit
				}
				askShortGood(t, list)
			}
		}
	}
}

// One bit alone: all behind it holds to no taps but those as far as it.
func TestQ2OneBit(t *testing.T) {
	for many := range api.MaxBits + 1 {
		for place := range many {
			list := make([]bool, many)
			list[place] = true
			askShort(t, list, make([]bool, place+1), api.OK)
			list = slices.Repeat([]bool{true}, many)
			list[place] = false
			askShortGood(t, list)
		}
	}
}

// A row that a rule made has no longer rule than it; where the row is twice as long as its shortest rule, that is the only one so short.
func TestQ2FoundAgain(t *testing.T) {
	r := rand.New(rand.NewSource(64))
	again := 0
	for range 3000 {
		many := r.Intn(33)
		rule, first := drawn(r, many, 2), drawn(r, many, 2)
		list, _ := shift.Run(rule, first, max(2*many, r.Intn(api.MaxBits+1)))
		taps := askShortGood(t, list)
		if len(taps) > many {
			t.Errorf("Short(%s) = %s, which is longer than %s", text(list), text(taps), text(rule))
		}
		if len(taps) == many {
			again++
			if !slices.Equal(taps, rule) {
				t.Errorf("Short(%s) = %s, but %s makes it, too", text(list), text(taps), text(rule))
			}
		}
	}
	if again < 1000 {
		t.Errorf("only %d rules were to be found again", again)
	}
}

// Rows short of twice their rule: where several are as short, that of the least order is told.
func TestQ2Several(t *testing.T) {
	r := rand.New(rand.NewSource(65))
	several := 0
	for range 3000 {
		many := 20 + r.Intn(30)
		rule, first := drawn(r, many, 2), drawn(r, many, 2)
		list, _ := shift.Run(rule, first, min(many+r.Intn(many+1), api.MaxBits))
		taps := askShortGood(t, list)
		if 2*len(taps) > len(list) {
			several++
		}
	}
	if several < 1000 {
		t.Errorf("only %d rows had several rules", several)
	}
}

// A row that comes round only behind 63 steps is told by its first 12 bits already, and still by 64.
func TestQ2ComesRound(t *testing.T) {
	for first := 1; first < 64; first++ {
		list, _ := shift.Run(row("000011"), numbered(first, 6), api.MaxBits)
		if slices.Equal(list[1:64], list[:63]) || list[63] != list[0] {
			t.Errorf("%s does not come round", text(list))
		}
		for many := 12; many <= api.MaxBits; many++ {
			askShort(t, list[:many], row("000011"), api.OK)
		}
	}
}

func TestQ2Large(t *testing.T) {
	r := rand.New(rand.NewSource(66))
	for _, many := range []int{65, 66, 127, 128, 129, 1000, 1 << 16} {
		askShort(t, make([]bool, many), nil, api.ErrLarge)
		askShort(t, drawn(r, many, 2), nil, api.ErrLarge)
	}
	last := make([]bool, api.MaxBits)
	askShort(t, last, nil, api.OK)
	last[api.MaxBits-1] = true
	askShort(t, last, make([]bool, api.MaxBits), api.OK)
	last[api.MaxBits-2] = true
	askShort(t, last, append([]bool{true}, make([]bool, api.MaxBits-2)...), api.OK)
	last[0] = true
	askShortGood(t, last)
}

// At MaxBits both words of the rows are asked: rules about half as long as the row, and longer ones.
func TestQ2Words(t *testing.T) {
	r := rand.New(rand.NewSource(67))
	for range 400 {
		list := drawn(r, api.MaxBits, 2)
		askShortGood(t, list)
		// With few bits ahead and a drawn end, the rule is longer than half of the row.
		for i := range 40 {
			list[i] = i == 39
		}
		askShortGood(t, list)
	}
}

// Two answers share nothing with each other, nor with the row.
func TestQ2NewMemory(t *testing.T) {
	l := row("0010111001011")
	one, _ := shift.Short(l)
	other, _ := shift.Short(l)
	spoil(one)
	spoil(l)
	if !slices.Equal(other, row("011")) {
		t.Errorf("Short became %s", text(other))
	}
}
