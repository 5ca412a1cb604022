package pad_test

import (
	"math"
	"math/rand"
	"slices"
	"testing"

	"lockwright/api"
	"lockwright/pad"
)

// mark stands behind the rows that are handed in, and in the rows behind the last one.
const mark = -77

// farNumbers: what no message may become.
var farNumbers = []int{-1, -2, -4095, -4096, -4097, api.MaxCount, api.MaxCount + 1, 2 * api.MaxCount, 1 << 16, 1 << 20, math.MaxInt32, math.MinInt32, 1 << 32, 1<<32 + 1, math.MaxInt, math.MinInt, math.MinInt + 1}

// table answers rows of which the number of each message is what at tells of the key and it.
func table(keys, messages int, at func(key, message int) int) [][]int {
	t := make([][]int, keys)
	for key := range t {
		t[key] = make([]int, messages)
		for message := range t[key] {
			t[key][message] = at(key, message)
		}
	}
	return t
}

// sums: each message and the key added, and what is left of that, divided by sides.
func sums(sides int) [][]int {
	return table(sides, sides, func(key, message int) int { return (key + message) % sides })
}

func flat(keys, messages, n int) [][]int {
	return table(keys, messages, func(int, int) int { return n })
}

func cloned(t [][]int) [][]int {
	out := make([][]int, len(t))
	for i, row := range t {
		out[i] = slices.Clone(row)
	}
	return out
}

// tables answers all those of so many keys and messages whose numbers are below some number.
func tables(keys, messages, below int) [][][]int {
	all := [][][]int{flat(keys, messages, 0)}
	for key := range keys {
		for message := range messages {
			for _, t := range all[:len(all):len(all)] {
				for n := 1; n < below; n++ {
					next := cloned(t)
					next[key][message] = n
					all = append(all, next)
				}
			}
		}
	}
	return all
}

// guarded lays a table into longer memory, each row too, and answers it with what asks whether all of that is still as it was.
func guarded(t [][]int) ([][]int, func() bool) {
	memory := append(cloned(t), []int{mark}, nil, slices.Repeat([]int{mark}, 20))
	var before [][]int
	for i, row := range memory {
		longer := slices.Concat(row, []int{mark, 0, 1, mark})
		before = append(before, slices.Clone(longer))
		memory[i] = longer[:len(row)]
	}
	lengths := cloned(memory)
	same := func() bool {
		for i, row := range memory {
			if len(row) != len(lengths[i]) || !slices.Equal(row[:len(before[i])], before[i]) {
				return false
			}
		}
		return true
	}
	return memory[:len(t)], same
}

// wantPlain holds each two numbers of a row against each other.
func wantPlain(t [][]int) bool {
	for _, row := range t {
		for i := range row {
			for j := range i {
				if row[i] == row[j] {
					return false
				}
			}
		}
	}
	return true
}

// keysTo answers by how many keys the message becomes n.
func keysTo(t [][]int, message, n int) int {
	keys := 0
	for _, row := range t {
		if row[message] == n {
			keys++
		}
	}
	return keys
}

// wantPerfect asks any two messages of any number that some message becomes; of other numbers all are by no key.
func wantPerfect(t [][]int) bool {
	for _, n := range slices.Compact(slices.Sorted(slices.Values(slices.Concat(t...)))) {
		for a := range t[0] {
			for b := range a {
				if keysTo(t, a, n) != keysTo(t, b, n) {
					return false
				}
			}
		}
	}
	return true
}

func askCheck(t *testing.T, rows [][]int, wrong api.Errno) {
	t.Helper()
	given, same := guarded(rows)
	if e := pad.Check(given); e != wrong {
		t.Errorf("Check(%v) = %d; want %d", rows, e, wrong)
	}
	if !same() {
		t.Errorf("Check(%v) changed what was given", rows)
	}
}

func askPlain(t *testing.T, rows [][]int, want bool, wrong api.Errno) {
	t.Helper()
	given, same := guarded(rows)
	if is, e := pad.Plain(given); is != want || e != wrong {
		t.Errorf("Plain(%v) = %t, %d; want %t, %d", rows, is, e, want, wrong)
	}
	if !same() {
		t.Errorf("Plain(%v) changed what was given", rows)
	}
}

func askPerfect(t *testing.T, rows [][]int, want bool, wrong api.Errno) {
	t.Helper()
	given, same := guarded(rows)
	if is, e := pad.Perfect(given); is != want || e != wrong {
		t.Errorf("Perfect(%v) = %t, %d; want %t, %d", rows, is, e, want, wrong)
	}
	if !same() {
		t.Errorf("Perfect(%v) changed what was given", rows)
	}
}

func askFind(t *testing.T, rows [][]int, k, c, want int, wrong api.Errno) {
	t.Helper()
	given, same := guarded(rows)
	if m, e := pad.Find(given, k, c); m != want || e != wrong {
		t.Errorf("Find(%v, %d, %d) = %d, %d; want %d, %d", rows, k, c, m, e, want, wrong)
	}
	if !same() {
		t.Errorf("Find(%v, %d, %d) changed what was given", rows, k, c)
	}
}

// askGood asks all four calls of a cipher.
func askGood(t *testing.T, rows [][]int, plain, perfect bool) {
	t.Helper()
	askCheck(t, rows, api.OK)
	askPlain(t, rows, plain, api.OK)
	askPerfect(t, rows, perfect, api.OK)
	given, same := guarded(rows)
	for k, row := range rows {
		for _, c := range row {
			first := 0
			for row[first] != c {
				first++
			}
			if m, e := pad.Find(given, k, c); m != first || e != api.OK {
				t.Errorf("Find(%v, %d, %d) = %d, %d; want %d", rows, k, c, m, e, first)
			}
		}
	}
	if !same() {
		t.Errorf("Find of %v changed what was given", rows)
	}
}

// askBad asks all four calls of what is no cipher: keys and numbers that would be wrong by themselves change nothing of what is told.
func askBad(t *testing.T, rows [][]int, wrong api.Errno) {
	t.Helper()
	askCheck(t, rows, wrong)
	askPlain(t, rows, false, wrong)
	askPerfect(t, rows, false, wrong)
	for _, k := range []int{0, 1, len(rows) - 1, len(rows), -1, math.MaxInt, math.MinInt} {
		for _, c := range []int{0, 1, -1, mark, api.MaxCount, math.MaxInt, math.MinInt} {
			askFind(t, rows, k, c, 0, wrong)
		}
	}
}

func TestM1Named(t *testing.T) {
	for _, rows := range [][][]int{{{0, 1}, {1, 0}}, {{0}}, {{api.MaxCount - 1}}, {{2, 2}}, {{0, 0}, {0, 0}, {0, 0}}, {{5, 4095, 0, 7}}, {{3}, {2}, {1}}} {
		askCheck(t, rows, api.OK)
	}
	askBad(t, nil, api.ErrNone)
	askBad(t, [][]int{}, api.ErrNone)
	askBad(t, [][]int{nil}, api.ErrNone)
	askBad(t, [][]int{{}}, api.ErrNone)
	askBad(t, [][]int{{0}, nil}, api.ErrForm)
	askBad(t, [][]int{{0}, {}}, api.ErrForm)
	askBad(t, [][]int{{0, 1}, {1}}, api.ErrForm)
	askBad(t, [][]int{{0, 1}, {1, 0, 2}}, api.ErrForm)
	askBad(t, [][]int{{-1}}, api.ErrRange)
	askBad(t, [][]int{{api.MaxCount}}, api.ErrRange)
}

// Every number of keys and of messages, within the limits and beyond them.
func TestM1Sides(t *testing.T) {
	for keys := range 2*api.MaxSide + 4 {
		for messages := range 2*api.MaxSide + 4 {
			want := api.OK
			if keys > api.MaxSide || keys > 0 && messages > api.MaxSide {
				want = api.ErrLarge
			} else if keys == 0 || messages == 0 {
				want = api.ErrNone
			}
			askCheck(t, flat(keys, messages, 3), want)
		}
	}
	for _, rows := range [][][]int{flat(17, 1, 0), flat(17, 0, 0), flat(17, 16, 0), flat(1, 17, 0), flat(16, 17, 0), flat(17, 17, 0), flat(5000, 1, 0), flat(70000, 0, 0), flat(1, 1<<16+1, 0)} {
		askBad(t, rows, api.ErrLarge)
	}
	askGood(t, flat(16, 16, 4095), false, true)
	askGood(t, flat(16, 1, 4095), true, true)
	askGood(t, flat(1, 16, 4095), false, true)
}

// A row that is too long is told wherever it stands, ahead of all else.
func TestM1Large(t *testing.T) {
	for keys := 1; keys <= api.MaxSide; keys++ {
		for at := range keys {
			rows := flat(keys, 2, 1)
			rows[at] = make([]int, api.MaxSide)
			if keys > 1 {
				askCheck(t, rows, api.ErrForm)
			}
			rows[at] = make([]int, api.MaxSide+1)
			askCheck(t, rows, api.ErrLarge)
			rows[at][0] = -1
			askCheck(t, rows, api.ErrLarge)
			rows[(at+1)%keys] = slices.Repeat([]int{-1}, api.MaxSide+1)
			askCheck(t, rows, api.ErrLarge)
		}
	}
	long := make([]int, api.MaxSide+1)
	for _, rows := range [][][]int{{nil, long}, {nil, nil, long}, {{1}, nil, long}, {{-1}, long}, {{1, 2}, {1}, long}, {long, nil}, {long, {-1}}, {nil, {1}, {-1, 1}, long}} {
		askBad(t, rows, api.ErrLarge)
	}
	askBad(t, flat(17, 1, -1), api.ErrLarge)
	askBad(t, flat(17, 3, api.MaxCount), api.ErrLarge)
	askBad(t, append(flat(16, 0, 0), []int{1}), api.ErrLarge)
	askBad(t, append(flat(16, 2, 0), []int{-1}), api.ErrLarge)
}

// A first row without numbers is told ahead of what is wrong with the rows behind it.
func TestM1None(t *testing.T) {
	for _, rows := range [][][]int{{nil, {1}}, {{}, {1, 2}}, {nil, nil}, {{}, {}, {3}}, {nil, {-1}}, {nil, {1}, {1, api.MaxCount}}, flat(16, 0, 0)} {
		askBad(t, rows, api.ErrNone)
	}
}

// A row that is longer or shorter than the first one is told wherever it stands, ahead of numbers out of bounds.
func TestM1Form(t *testing.T) {
	for messages := 1; messages <= api.MaxSide; messages++ {
		for other := range api.MaxSide + 1 {
			if other == messages {
				continue
			}
			for at := 1; at < 5; at++ {
				rows := flat(5, messages, 2)
				rows[at] = make([]int, other)
				askCheck(t, rows, api.ErrForm)
				rows[0][messages-1] = -1
				askCheck(t, rows, api.ErrForm)
				rows[at] = slices.Repeat([]int{api.MaxCount}, other)
				askCheck(t, rows, api.ErrForm)
			}
		}
	}
	for _, rows := range [][][]int{{{-1}, nil}, {{1}, {-1, 2}}, {{1, -1}, {2}}, {{1, 2}, {api.MaxCount}}, {{1, 2}, {1, api.MaxCount}, {1}}, {{1, 2}, {1, 2, 3}, {1}}} {
		askBad(t, rows, api.ErrForm)
	}
}

// A number out of bounds is told wherever it stands.
func TestM1Range(t *testing.T) {
	for _, far := range farNumbers {
		for _, side := range [][2]int{{1, 1}, {1, 5}, {5, 1}, {3, 2}, {16, 16}} {
			for key := range side[0] {
				for message := range side[1] {
					rows := flat(side[0], side[1], 7)
					rows[key][message] = far
					askCheck(t, rows, api.ErrRange)
				}
			}
		}
		askBad(t, [][]int{{0, 1}, {far, 0}}, api.ErrRange)
		askBad(t, [][]int{{far, far}, {far, far}}, api.ErrRange)
	}
	for n := -5000; n <= 10000; n++ {
		want := api.OK
		if n < 0 || n > 4095 {
			want = api.ErrRange
		}
		askCheck(t, [][]int{{0, n}}, want)
	}
}

func TestM2Named(t *testing.T) {
	askGood(t, [][]int{{0, 1}, {1, 0}}, true, true)
	askGood(t, [][]int{{2, 2}}, false, true)
	askGood(t, [][]int{{0, 1}}, true, false)
	askGood(t, [][]int{{0}}, true, true)
	askGood(t, [][]int{{0}, {0}, {1}}, true, true)
	askGood(t, [][]int{{0, 1}, {0, 1}}, true, false)
	askGood(t, [][]int{{0, 1}, {1, 2}}, true, false)
	askGood(t, [][]int{{0, 0}, {1, 1}}, false, true)
	askGood(t, [][]int{{0, 1}, {1, 1}}, false, false)
	askGood(t, [][]int{{4095, 0}, {0, 4095}}, true, true)
}

// The same numbers, but not as often: that tells something.
func TestM2HowOften(t *testing.T) {
	askGood(t, [][]int{{1, 2}, {1, 2}, {2, 1}}, true, false)
	askGood(t, [][]int{{1, 2}, {1, 2}, {2, 1}, {2, 1}}, true, true)
	askGood(t, [][]int{{1, 1, 2}, {1, 2, 2}, {2, 1, 1}}, false, false)
	askGood(t, [][]int{{1, 1, 2}, {1, 2, 1}, {2, 1, 1}}, false, true)
	askGood(t, [][]int{{0, 1}, {1, 2}, {2, 0}}, true, true)
	askGood(t, [][]int{{0, 1}, {1, 2}, {2, 3}, {3, 0}}, true, true)
	askGood(t, [][]int{{0, 1}, {1, 0}, {2, 3}, {3, 2}}, true, true)
	askGood(t, [][]int{{0, 1}, {1, 0}, {2, 3}, {3, 4}}, true, false)
}

func TestM2AllSmall(t *testing.T) {
	for _, size := range [][3]int{{1, 1, 5}, {1, 2, 5}, {1, 3, 4}, {1, 6, 3}, {2, 1, 5}, {2, 2, 5}, {2, 3, 4}, {2, 4, 3}, {3, 1, 4}, {3, 2, 4}, {3, 3, 3}, {4, 2, 3}, {4, 3, 2}, {3, 4, 2}, {6, 1, 3}, {6, 2, 2}} {
		for _, rows := range tables(size[0], size[1], size[2]) {
			askGood(t, rows, wantPlain(rows), wantPerfect(rows))
			for key := range rows {
				for c := -1; c <= size[2]; c++ {
					if !slices.Contains(rows[key], c) {
						askFind(t, rows, key, c, 0, api.ErrNone)
					}
				}
			}
		}
	}
}

// Where each number comes of each message by just one key, a cipher is both, however its keys, messages and numbers are named.
func TestM2Sums(t *testing.T) {
	r := rand.New(rand.NewSource(26))
	for sides := 1; sides <= api.MaxSide; sides++ {
		askGood(t, sums(sides), true, true)
		keys, messages, numbers := r.Perm(sides), r.Perm(sides), r.Perm(api.MaxCount)
		named := table(sides, sides, func(key, message int) int { return numbers[(keys[key]+messages[message])%sides] })
		askGood(t, named, true, true)
		for fewer := 1; fewer < sides; fewer++ {
			askGood(t, named[:fewer], true, false)
		}
	}
}

// turned: each message becomes the same numbers as often, each time by other keys.
func turned(r *rand.Rand, keys, messages, below int) [][]int {
	var column []int
	for range keys {
		column = append(column, r.Intn(below))
	}
	rows := make([][]int, keys)
	for range messages {
		for key, at := range r.Perm(keys) {
			rows[key] = append(rows[key], column[at])
		}
	}
	return rows
}

func TestM2Drawn(t *testing.T) {
	r := rand.New(rand.NewSource(27))
	for keys := 1; keys <= api.MaxSide; keys++ {
		for messages := 1; messages <= api.MaxSide; messages++ {
			for _, below := range []int{1, 2, keys + 1, api.MaxCount} {
				rows := turned(r, keys, messages, below)
				askGood(t, rows, wantPlain(rows), true)
				// One number turned into any other one tells of that message, if there is another one.
				key, message := r.Intn(keys), r.Intn(messages)
				rows[key][message] = (rows[key][message] + 1 + r.Intn(api.MaxCount-1)) % api.MaxCount
				askGood(t, rows, wantPlain(rows), messages == 1)
				rows = table(keys, messages, func(int, int) int { return r.Intn(below) })
				askGood(t, rows, wantPlain(rows), wantPerfect(rows))
			}
		}
	}
}

// Two numbers of one row that are the same are found in whichever row, and at whichever two places, they stand; in two rows they don't count.
func TestM2Twice(t *testing.T) {
	r := rand.New(rand.NewSource(28))
	for keys := 1; keys <= api.MaxSide; keys++ {
		row := r.Perm(api.MaxCount)[:api.MaxSide]
		rows := slices.Repeat([][]int{row}, keys)
		askPlain(t, rows, true, api.OK)
		askPerfect(t, rows, false, api.OK)
		for j := range row {
			for i := range j {
				other := cloned(rows)
				key := r.Intn(keys)
				other[key][j] = other[key][i]
				askPlain(t, other, false, api.OK)
				askFind(t, other, key, row[i], i, api.OK)
				askFind(t, other, key, row[j], 0, api.ErrNone)
			}
		}
	}
}

// What is to tell nothing tells nothing: of a perfect cipher whose keys are all as likely, each number that is seen is as likely from each message; and it is plain, too, only with as many keys as messages, or more.
func TestM2TellsNothing(t *testing.T) {
	for _, size := range [][3]int{{1, 2, 4}, {2, 2, 4}, {3, 2, 4}, {1, 3, 4}, {2, 3, 4}, {3, 3, 3}, {4, 2, 3}, {3, 4, 2}} {
		for _, rows := range tables(size[0], size[1], size[2]) {
			plain, _ := pad.Plain(rows)
			perfect, _ := pad.Perfect(rows)
			if plain && perfect && len(rows) < len(rows[0]) {
				t.Errorf("%v has fewer keys than messages, and tells nothing", rows)
			}
			alike := true
			for n := range size[2] {
				for message := range rows[0] {
					alike = alike && keysTo(rows, message, n) == keysTo(rows, 0, n)
				}
			}
			if alike != perfect {
				t.Errorf("Perfect(%v) = %t", rows, perfect)
			}
		}
	}
}

// What was hidden is found again: by a plain cipher each message, by each key.
func TestM2FoundAgain(t *testing.T) {
	r := rand.New(rand.NewSource(29))
	for keys := 1; keys <= api.MaxSide; keys++ {
		for messages := 1; messages <= api.MaxSide; messages++ {
			var rows [][]int
			for range keys {
				rows = append(rows, r.Perm(messages + r.Intn(api.MaxCount-messages+1))[:messages])
			}
			askPlain(t, rows, true, api.OK)
			for key, row := range rows {
				for message, n := range row {
					askFind(t, rows, key, n, message, api.OK)
				}
			}
		}
	}
}

// A key that there is not is told ahead of a number that no message becomes.
func TestM2Refused(t *testing.T) {
	rows := [][]int{{0, 1, 0}, {1, 5, 4095}}
	for _, k := range []int{-1, -2, 2, 3, 16, 1 << 32, math.MaxInt, math.MinInt, math.MinInt + 1} {
		for _, c := range []int{0, 1, 5, 4095, 7, -1, api.MaxCount, math.MaxInt, math.MinInt} {
			askFind(t, rows, k, c, 0, api.ErrArg)
		}
	}
	for _, c := range append(farNumbers, 2, 3, 4, 6, 4094, mark) {
		askFind(t, rows, 0, c, 0, api.ErrNone)
		askFind(t, rows, 1, c, 0, api.ErrNone)
	}
	// What only another key makes of a message is not found.
	askFind(t, rows, 0, 5, 0, api.ErrNone)
	askFind(t, rows, 0, 4095, 0, api.ErrNone)
	askFind(t, rows, 1, 0, 0, api.ErrNone)
	for keys := 1; keys <= api.MaxSide; keys++ {
		askFind(t, flat(keys, 3, 9), keys-1, 9, 0, api.OK)
		askFind(t, flat(keys, 3, 9), keys, 9, 0, api.ErrArg)
		askFind(t, flat(keys, 3, 9), keys, 8, 0, api.ErrArg)
		askFind(t, flat(keys, 3, 9), keys-1, 8, 0, api.ErrNone)
	}
}

// Rows may be one and the same memory, and what is told hangs on nothing but what was given.
func TestM2AgainAndAgain(t *testing.T) {
	row := []int{3, 3, 1}
	rows := [][]int{row, row, {1, 3, 3}}
	for range 100 {
		askGood(t, rows, false, false)
		askGood(t, rows[:2], false, false)
		askGood(t, [][]int{row[:2], row[:2]}, false, true)
		askGood(t, sums(16), true, true)
	}
}
