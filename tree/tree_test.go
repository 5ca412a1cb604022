package tree_test

import (
	"bytes"
	"math"
	"math/rand"
	"slices"
	"strings"
	"testing"

	"lockwright/api"
	"lockwright/hash"
	"lockwright/tree"
)

// mark stands behind the proofs that are handed in: it is out of bounds for a node.
const mark = uint32(0xfeedbeef)

// farCounts: no tree has so many leafs.
var farCounts = []int{0, -1, -2, -64, 65, 66, 127, 128, 1 << 20, 1<<32 + 1, math.MaxInt, math.MinInt, math.MinInt + 1}

// farNodes: what no node is; cut to two bytes many of them are some.
var farNodes = []uint32{65536, 65537, 65536 + 4760, 1 << 17, 1 << 20, 1 << 24, 1 << 31, math.MaxUint32}

func sum(text ...byte) uint32 {
	h, _ := hash.Sum(text)
	return h
}

func wantLeaf(leaf []byte) uint32 { return sum(append([]byte{0}, leaf...)...) }

func wantPair(first, second uint32) uint32 {
	return sum(1, byte(first%256), byte(first/256), byte(second%256), byte(second/256))
}

// cut: the first half of more than one leaf are as many as the greatest power of two below that: so many are a whole tree.
func cut(n int) int {
	half := 1
	for half*2 < n {
		half *= 2
	}
	return half
}

// wantRoot goes from the root down, where S1 goes row by row up.
func wantRoot(leafs [][]byte) uint32 {
	if len(leafs) == 1 {
		return wantLeaf(leafs[0])
	}
	half := cut(len(leafs))
	return wantPair(wantRoot(leafs[:half]), wantRoot(leafs[half:]))
}

func wantProof(leafs [][]byte, i int) []uint32 {
	if len(leafs) == 1 {
		return nil
	}
	half := cut(len(leafs))
	if i < half {
		return append(wantProof(leafs[:half], i), wantRoot(leafs[half:]))
	}
	return append(wantProof(leafs[half:], i-half), wantRoot(leafs[:half]))
}

// needed answers on which side the other node stands, row by row: true, if it is the first one of the two.
func needed(n, i int) []bool {
	if n == 1 {
		return nil
	}
	half := cut(n)
	if i < half {
		return append(needed(half, i), false)
	}
	return append(needed(n-half, i-half), true)
}

// wantWay answers the texts from the leaf up, of a proof that is as long as needed.
func wantWay(n, i int, leaf []byte, proof []uint32) [][]byte {
	way := [][]byte{append([]byte{0}, leaf...)}
	for row, first := range needed(n, i) {
		a, b := sum(way[row]...), proof[row]
		if first {
			a, b = b, a
		}
		way = append(way, []byte{1, byte(a % 256), byte(a / 256), byte(b % 256), byte(b / 256)})
	}
	return way
}

// wantEnd answers the node that a leaf and a proof come to; false, if they come to none.
func wantEnd(n, i int, leaf []byte, proof []uint32) (uint32, bool) {
	if len(proof) != len(needed(n, i)) {
		return 0, false
	}
	for _, node := range proof {
		if node > 65535 {
			return 0, false
		}
	}
	way := wantWay(n, i, leaf, proof)
	return sum(way[len(way)-1]...), true
}

func drawn(r *rand.Rand, n int) []byte {
	text := make([]byte, n)
	r.Read(text)
	return text
}

func drawLeafs(r *rand.Rand, n, long int) [][]byte {
	var leafs [][]byte
	for range n {
		leafs = append(leafs, drawn(r, r.Intn(long+1)))
	}
	return leafs
}

func drawProof(r *rand.Rand, n int) []uint32 {
	proof := make([]uint32, n)
	for i := range proof {
		proof[i] = uint32(r.Intn(1 << 16))
	}
	return proof
}

func letters(text string) [][]byte {
	var leafs [][]byte
	for _, word := range strings.Split(text, "") {
		leafs = append(leafs, []byte(word))
	}
	return leafs
}

// guarded lays a list into longer memory, and answers it with what asks whether all of that is still as it was.
func guarded[T comparable](list []T, behind T) ([]T, func() bool) {
	longer := slices.Concat(list, slices.Repeat([]T{behind}, 9))
	before := slices.Clone(longer)
	return longer[:len(list)], func() bool { return slices.Equal(longer, before) }
}

// guardedLeafs does so with a list of leafs, and with each of them; behind them stands a leaf that is too long.
func guardedLeafs(leafs [][]byte, fill byte) ([][]byte, func() bool) {
	var given [][]byte
	var asks []func() bool
	for _, leaf := range leafs {
		inner, same := guarded(leaf, fill)
		given, asks = append(given, inner), append(asks, same)
	}
	given = append(given, make([]byte, 5000), []byte{fill})
	before := slices.Clone(given)
	alike := func(a, b []byte) bool { return len(a) == len(b) && (len(a) == 0 || &a[0] == &b[0]) }
	changed := func(same func() bool) bool { return !same() }
	return given[:len(leafs)], func() bool {
		return slices.EqualFunc(given, before, alike) && !slices.ContainsFunc(asks, changed)
	}
}

// brief cuts off what is too long to be told.
func brief(text []byte) []byte { return text[:min(len(text), 12)] }

func askRoot(t *testing.T, leafs [][]byte, want uint32, wrong api.Errno) {
	t.Helper()
	for _, fill := range []byte{0, 255} {
		given, same := guardedLeafs(leafs, fill)
		root, e := tree.Root(given)
		if root != want || e != wrong {
			t.Errorf("Root of %d leafs = %d, %d; want %d, %d", len(leafs), root, e, want, wrong)
		}
		if !same() {
			t.Errorf("Root of %d leafs changed what was given", len(leafs))
		}
	}
}

// askProve spoils what came out: it is shared with nothing that comes out again.
func askProve(t *testing.T, leafs [][]byte, i int, want []uint32, wrong api.Errno) {
	t.Helper()
	for _, fill := range []byte{0, 255} {
		given, same := guardedLeafs(leafs, fill)
		proof, e := tree.Prove(given, i)
		if !slices.Equal(proof, want) || e != wrong {
			t.Errorf("Prove of %d leafs, %d = %d, %d; want %d, %d", len(leafs), i, proof, e, want, wrong)
		}
		for at := range proof[:cap(proof)] {
			proof[:cap(proof)][at] = mark
		}
		if !same() {
			t.Errorf("Prove of %d leafs, %d changed what was given", len(leafs), i)
		}
	}
}

func askCheck(t *testing.T, root uint32, n, i int, leaf []byte, proof []uint32, want bool, wrong api.Errno) {
	t.Helper()
	for _, fill := range []byte{0, 255} {
		givenLeaf, sameLeaf := guarded(leaf, fill)
		givenProof, sameProof := guarded(proof, mark*uint32(fill))
		is, e := tree.Check(root, n, i, givenLeaf, givenProof)
		if is != want || e != wrong {
			t.Errorf("Check(%d, %d, %d, %v, %v; %d bytes) = %t, %d; want %t, %d", root, n, i, brief(leaf), proof, len(leaf), is, e, want, wrong)
		}
		if !sameLeaf() || !sameProof() {
			t.Errorf("Check(%d, %d, %d, %v, %v; %d bytes) changed what was given", root, n, i, brief(leaf), proof, len(leaf))
		}
	}
}

// askClash spoils what came out: neither text is shared with anything.
func askClash(t *testing.T, n, i int, a []byte, p []uint32, b []byte, q []uint32, first, second []byte, wrong api.Errno) {
	t.Helper()
	for _, fill := range []byte{0, 255} {
		givenA, sameA := guarded(a, fill)
		givenB, sameB := guarded(b, ^fill)
		givenP, sameP := guarded(p, mark*uint32(fill))
		givenQ, sameQ := guarded(q, mark*uint32(^fill))
		x, y, e := tree.Clash(n, i, givenA, givenP, givenB, givenQ)
		if !bytes.Equal(x, first) || !bytes.Equal(y, second) || e != wrong {
			t.Errorf("Clash(%d, %d, %v, %v, %v, %v) = %v, %v, %d; want %v, %v, %d", n, i, brief(a), p, brief(b), q, brief(x), brief(y), e, brief(first), brief(second), wrong)
		}
		for at := range x[:cap(x)] {
			x[:cap(x)][at] = 77
		}
		if !bytes.Equal(y, second) {
			t.Errorf("Clash(%d, %d, %v, %v, %v, %v) answered two texts that share memory", n, i, brief(a), p, brief(b), q)
		}
		for at := range y[:cap(y)] {
			y[:cap(y)][at] = 78
		}
		if !sameA() || !sameB() || !sameP() || !sameQ() {
			t.Errorf("Clash(%d, %d, %v, %v, %v, %v) changed or answered what was given", n, i, brief(a), p, brief(b), q)
		}
	}
}

// askWrong asks of both leafs, either one first.
func askWrong(t *testing.T, n, i int, a []byte, p []uint32, b []byte, q []uint32, wrong api.Errno) {
	t.Helper()
	askClash(t, n, i, a, p, b, q, nil, nil, wrong)
	askClash(t, n, i, b, q, a, p, nil, nil, wrong)
}

// askTold asks of two leafs with proofs that come together first at that one of the nodes needed (0: at the leafs).
func askTold(t *testing.T, n, i int, a []byte, p []uint32, b []byte, q []uint32, at int) {
	t.Helper()
	first, second := wantWay(n, i, a, p)[at], wantWay(n, i, b, q)[at]
	if bytes.Equal(first, second) || sum(first...) != sum(second...) {
		t.Errorf("%v, %v are no clash: n %d, i %d, %v %v, %v %v", brief(first), brief(second), n, i, brief(a), p, brief(b), q)
	}
	askClash(t, n, i, a, p, b, q, first, second, api.OK)
	askClash(t, n, i, b, q, a, p, second, first, api.OK)
}

func TestS1Named(t *testing.T) {
	askRoot(t, [][]byte{nil}, 39102, api.OK)
	askRoot(t, [][]byte{{0}}, 54642, api.OK)
	askRoot(t, [][]byte{nil, {}}, 15197, api.OK)
	named := []struct {
		leafs string
		want  uint32
	}{
		{"a", 4760}, {"b", 55859}, {"c", 1833},
		// The first one comes first.
		{"ab", 35087}, {"ba", 51459},
		// Who is left over goes up as it is: the node of 35087 and 1833, which is c's.
		{"abc", 63973}, {"abcd", 8107},
		// Twice left over, once left over in the second row, left over and then one of two.
		{"abcde", 13189}, {"abcdef", 5075}, {"abcdefg", 43626},
	}
	for _, w := range named {
		askRoot(t, letters(w.leafs), w.want, api.OK)
	}
}

// A text that is written as two nodes are is no pair of nodes, and one with a 0 ahead is another leaf.
func TestS1LeafIsNoPair(t *testing.T) {
	first, second := wantLeaf([]byte("a")), wantLeaf([]byte("b"))
	both := []byte{byte(first), byte(first >> 8), byte(second), byte(second >> 8)}
	askRoot(t, [][]byte{both}, sum(append([]byte{0}, both...)...), api.OK)
	askRoot(t, [][]byte{append([]byte{1}, both...)}, sum(append([]byte{0, 1}, both...)...), api.OK)
	askRoot(t, letters("ab"), sum(append([]byte{1}, both...)...), api.OK)
	askRoot(t, [][]byte{append([]byte{0}, 'a')}, sum(0, 0, 'a'), api.OK)
}

// Every number of leafs up to MaxLeafs.
func TestS1Every(t *testing.T) {
	r := rand.New(rand.NewSource(81))
	for n := 1; n <= api.MaxLeafs; n++ {
		for _, long := range []int{0, 1, 5, 300} {
			leafs := drawLeafs(r, n, long)
			askRoot(t, leafs, wantRoot(leafs), api.OK)
		}
		alike := slices.Repeat([][]byte{{byte(n)}}, n)
		askRoot(t, alike, wantRoot(alike), api.OK)
	}
}

// One leaf turned anywhere makes another root, but where nodes happen to clash.
func TestS1EachLeaf(t *testing.T) {
	r := rand.New(rand.NewSource(82))
	for _, n := range []int{1, 2, 3, 7, 33, 64} {
		leafs := drawLeafs(r, n, 3)
		before, others := wantRoot(leafs), 0
		for i := range leafs {
			turned := slices.Clone(leafs)
			turned[i] = append(slices.Clone(leafs[i]), byte(i))
			root, e := tree.Root(turned)
			if root != wantRoot(turned) || e != api.OK {
				t.Errorf("Root of %v = %d, %d", turned, root, e)
			}
			if root != before {
				others++
			}
		}
		if others < n-1 {
			t.Errorf("of %d leafs only %d make another root when they are turned", n, others)
		}
	}
}

func TestS1Errors(t *testing.T) {
	askRoot(t, nil, 0, api.ErrNone)
	for _, none := range [][][]byte{nil, {}} {
		if root, e := tree.Root(none); root != 0 || e != api.ErrNone {
			t.Errorf("Root of no leafs = %d, %d", root, e)
		}
		for _, i := range []int{0, -1, 1, math.MaxInt, math.MinInt} {
			if proof, e := tree.Prove(none, i); len(proof) != 0 || e != api.ErrNone {
				t.Errorf("Prove of no leafs, %d = %v, %d", i, proof, e)
			}
		}
	}
	for _, n := range []int{65, 66, 127, 128, 129, 256, 1000, 1 << 16} {
		askRoot(t, make([][]byte, n), 0, api.ErrLarge)
		for _, i := range []int{0, 63, 64, n - 1, n, -1} {
			askProve(t, make([][]byte, n), i, nil, api.ErrLarge)
		}
	}
}

// A leaf may have one byte less than a text.
func TestS1LongLeafs(t *testing.T) {
	askRoot(t, [][]byte{make([]byte, 4095)}, 57721, api.OK)
	askRoot(t, [][]byte{bytes.Repeat([]byte{255}, 4095)}, 48932, api.OK)
	r := rand.New(rand.NewSource(83))
	for _, n := range []int{1, 2, 3, 8, 64} {
		var leafs [][]byte
		for range n {
			leafs = append(leafs, drawn(r, api.MaxText-1))
		}
		askRoot(t, leafs, wantRoot(leafs), api.OK)
		askProve(t, leafs, n-1, wantProof(leafs, n-1), api.OK)
		for at := range n {
			for _, long := range []int{4096, 4097, 8192, 1<<16 + 1} {
				one := drawLeafs(r, n, 5)
				one[at] = make([]byte, long)
				askRoot(t, one, 0, api.ErrLarge)
				askProve(t, one, 0, nil, api.ErrLarge)
				askProve(t, one, n, nil, api.ErrLarge)
				askProve(t, one, -1, nil, api.ErrLarge)
			}
		}
	}
}

func TestS2Named(t *testing.T) {
	askProve(t, letters("a"), 0, nil, api.OK)
	askCheck(t, 4760, 1, 0, []byte("a"), nil, true, api.OK)
	askCheck(t, 4761, 1, 0, []byte("a"), nil, false, api.OK)
	askProve(t, letters("ab"), 0, []uint32{55859}, api.OK)
	askProve(t, letters("ab"), 1, []uint32{4760}, api.OK)
	askProve(t, letters("abc"), 0, []uint32{55859, 1833}, api.OK)
	askProve(t, letters("abc"), 2, []uint32{35087}, api.OK)
	askProve(t, letters("abcde"), 4, []uint32{8107}, api.OK)
	askProve(t, letters("abcdefg"), 6, []uint32{11221, 8107}, api.OK)
	askProve(t, letters("abcdefg"), 3, []uint32{1833, 35087, 1056}, api.OK)
	askCheck(t, 43626, 7, 3, []byte("d"), []uint32{1833, 35087, 1056}, true, api.OK)
	askCheck(t, 43626, 7, 2, []byte("d"), []uint32{1833, 35087, 1056}, false, api.OK)
	askCheck(t, 43626, 7, 6, []byte("g"), []uint32{11221, 8107}, true, api.OK)
	askCheck(t, 63973, 3, 2, []byte("c"), []uint32{35087}, true, api.OK)
	// lab and hpc have one node, 40651.
	askCheck(t, 40651, 1, 0, []byte("lab"), nil, true, api.OK)
	askCheck(t, 40651, 1, 0, []byte("hpc"), nil, true, api.OK)
}

// Each leaf of every number of leafs is proved, and the proof holds.
func TestS2Every(t *testing.T) {
	r := rand.New(rand.NewSource(84))
	for n := 1; n <= api.MaxLeafs; n++ {
		leafs := drawLeafs(r, n, 6)
		root := wantRoot(leafs)
		for i := range n {
			proof := wantProof(leafs, i)
			askProve(t, leafs, i, proof, api.OK)
			askCheck(t, root, n, i, leafs[i], proof, true, api.OK)
		}
		for _, i := range []int{-1, -2, -n, n, n + 1, 64, 65, 1 << 32, math.MaxInt, math.MinInt} {
			if i < 0 || i >= n {
				askProve(t, leafs, i, nil, api.ErrArg)
			}
		}
	}
}

// What holds, turned in one thing: the root, the leaf, each node.
func TestS2Turned(t *testing.T) {
	r := rand.New(rand.NewSource(85))
	for _, n := range []int{1, 2, 3, 5, 6, 7, 11, 32, 33, 63, 64} {
		leafs := drawLeafs(r, n, 6)
		root := wantRoot(leafs)
		for i := range n {
			proof := wantProof(leafs, i)
			for bit := range 32 {
				askCheck(t, root^1<<bit, n, i, leafs[i], proof, false, api.OK)
			}
			for _, leaf := range [][]byte{nil, append([]byte{0}, leafs[i]...), append(slices.Clone(leafs[i]), 0), drawn(r, 6)} {
				end, _ := wantEnd(n, i, leaf, proof)
				askCheck(t, root, n, i, leaf, proof, end == root, api.OK)
			}
			for at := range proof {
				for bit := range 32 {
					turned := slices.Clone(proof)
					turned[at] ^= 1 << bit
					end, leads := wantEnd(n, i, leafs[i], turned)
					askCheck(t, root, n, i, leafs[i], turned, leads && end == root, api.OK)
				}
			}
		}
	}
}

// A proof with a node too many or too few does not hold, whichever it is.
func TestS2Length(t *testing.T) {
	r := rand.New(rand.NewSource(86))
	for n := 1; n <= api.MaxLeafs; n++ {
		leafs := drawLeafs(r, n, 4)
		root := wantRoot(leafs)
		for i := range n {
			proof := wantProof(leafs, i)
			for at := range proof {
				askCheck(t, root, n, i, leafs[i], slices.Delete(slices.Clone(proof), at, at+1), false, api.OK)
				askCheck(t, root, n, i, leafs[i], proof[:at], false, api.OK)
			}
			for at := range len(proof) + 1 {
				for _, node := range []uint32{0, 1, root, 65535, 65536} {
					askCheck(t, root, n, i, leafs[i], slices.Insert(slices.Clone(proof), at, node), false, api.OK)
				}
			}
		}
	}
	// Where the way ends one node earlier or later, the root is what it comes to there.
	askCheck(t, 35087, 3, 0, []byte("a"), []uint32{55859}, false, api.OK)
	askCheck(t, 63973, 2, 0, []byte("a"), []uint32{55859, 1833}, false, api.OK)
	askCheck(t, 4760, 2, 0, []byte("a"), nil, false, api.OK)
	for n := range api.MaxLeafs + 1 {
		askCheck(t, 4760, 1, 0, []byte("a"), make([]uint32, n), n == 0, api.OK)
	}
}

// A node cut to two bytes would hold: but it is none.
func TestS2Bounds(t *testing.T) {
	askCheck(t, 35087, 2, 0, []byte("a"), []uint32{55859 + 65536}, false, api.OK)
	askCheck(t, 35087, 2, 1, []byte("b"), []uint32{4760 + 1<<31}, false, api.OK)
	askCheck(t, 35087+65536, 2, 0, []byte("a"), []uint32{55859}, false, api.OK)
	r := rand.New(rand.NewSource(87))
	for _, n := range []int{2, 3, 5, 8, 13, 64} {
		for i := range n {
			for at := range needed(n, i) {
				for _, far := range farNodes {
					leaf, proof := drawn(r, 3), drawProof(r, len(needed(n, i)))
					proof[at] = far % 65536
					root, _ := wantEnd(n, i, leaf, proof)
					askCheck(t, root, n, i, leaf, proof, true, api.OK)
					proof[at] = far
					askCheck(t, root, n, i, leaf, proof, false, api.OK)
				}
			}
			for _, edge := range []uint32{0, 65535} {
				leaf, proof := drawn(r, 3), slices.Repeat([]uint32{edge}, len(needed(n, i)))
				root, _ := wantEnd(n, i, leaf, proof)
				askCheck(t, root, n, i, leaf, proof, true, api.OK)
			}
		}
	}
	// Nor is it, where there are too many of them.
	askCheck(t, 4760, 1, 0, []byte("a"), []uint32{65536}, false, api.OK)
	askCheck(t, 4760, 1, 0, []byte("a"), slices.Repeat([]uint32{math.MaxUint32}, 64), false, api.OK)
}

// Not Prove alone makes what holds: whatever comes to the root does, at that place alone.
func TestS2Drawn(t *testing.T) {
	r := rand.New(rand.NewSource(88))
	for range 20000 {
		n := 1 + r.Intn(api.MaxLeafs)
		i, m := r.Intn(n), 1+r.Intn(api.MaxLeafs)
		j := r.Intn(m)
		leaf, proof := drawn(r, r.Intn(4)), drawProof(r, len(needed(n, i)))
		root, _ := wantEnd(n, i, leaf, proof)
		askCheck(t, root, n, i, leaf, proof, true, api.OK)
		end, leads := wantEnd(m, j, leaf, proof)
		askCheck(t, root, m, j, leaf, proof, leads && end == root, api.OK)
	}
}

// Every place of every number of leafs is asked of one proof.
func TestS2EveryPlace(t *testing.T) {
	leafs := drawLeafs(rand.New(rand.NewSource(89)), 21, 4)
	for _, at := range []int{0, 7, 16, 20} {
		root, proof := wantRoot(leafs), wantProof(leafs, at)
		for n := 1; n <= api.MaxLeafs; n++ {
			for i := range n {
				end, leads := wantEnd(n, i, leafs[at], proof)
				askCheck(t, root, n, i, leafs[at], proof, leads && end == root, api.OK)
			}
		}
	}
}

// far answers places that there are not, of n leafs.
func far(n int) []int {
	return []int{-1, -2, -n - 1, n, n + 1, n + 64, 1 << 32, 1<<32 + n, math.MaxInt, math.MinInt}
}

func TestS2Errors(t *testing.T) {
	leaf, long := []byte("a"), make([]byte, 4096)
	proof, many := []uint32{1, 2}, make([]uint32, 65)
	// ErrArg comes ahead of ErrLarge.
	for _, n := range farCounts {
		for _, i := range []int{0, 1, 63, -1, n - 1, n} {
			askCheck(t, 0, n, i, leaf, proof, false, api.ErrArg)
			askCheck(t, 0, n, i, long, many, false, api.ErrArg)
		}
	}
	for n := 1; n <= api.MaxLeafs; n++ {
		for _, i := range far(n) {
			askCheck(t, 4760, n, i, leaf, nil, false, api.ErrArg)
			askCheck(t, 4760, n, i, long, nil, false, api.ErrArg)
			askCheck(t, 4760, n, i, leaf, many, false, api.ErrArg)
		}
	}
	for _, n := range []int{1, 2, 3, 64} {
		for _, i := range []int{0, n - 1} {
			right := make([]uint32, len(needed(n, i)))
			for _, size := range []int{4096, 4097, 8191, 1<<16 + 1} {
				askCheck(t, 0, n, i, make([]byte, size), right, false, api.ErrLarge)
				askCheck(t, 0, n, i, make([]byte, size), []uint32{65536}, false, api.ErrLarge)
			}
			for _, size := range []int{65, 66, 128, 129, 1 << 16} {
				askCheck(t, 0, n, i, leaf, make([]uint32, size), false, api.ErrLarge)
				askCheck(t, 0, n, i, leaf, slices.Repeat([]uint32{65536}, size), false, api.ErrLarge)
			}
			askCheck(t, 0, n, i, leaf, make([]uint32, 64), false, api.OK)
			greatest := bytes.Repeat([]byte{7}, 4095)
			root, _ := wantEnd(n, i, greatest, right)
			askCheck(t, root, n, i, greatest, right, true, api.OK)
			askCheck(t, root^1, n, i, greatest, right, false, api.OK)
		}
	}
}

// back goes back by hash's Step: what comes of the answer, when b is mixed into it, is h.
type back [1 << 16]uint32

func makeBack() *back {
	var b back
	for h := range uint32(1 << 16) {
		b[hash.Step(h, 0)] = h
	}
	return &b
}

func (b *back) through(h uint32, text ...byte) uint32 {
	for _, c := range slices.Backward(text) {
		h = b[h] ^ uint32(c)
	}
	return h
}

func onward(h uint32, text ...byte) uint32 {
	for _, c := range text {
		h = hash.Step(h, c)
	}
	return h
}

// between answers the nodes whose two bytes lead from one h to the other one: of each lower byte there is at most one.
func (b *back) between(from, to uint32) []uint32 {
	var nodes []uint32
	for low := range uint32(256) {
		upper := onward(from, byte(low)) ^ b.through(to, 0)
		if upper < 256 {
			nodes = append(nodes, upper<<8|low)
		}
	}
	return nodes
}

// others answers the nodes of which, with the node beside them, comes the wanted one.
func (b *back) others(node uint32, first bool, want uint32) []uint32 {
	low, upper := byte(node%256), byte(node/256)
	if first {
		return b.between(onward(0, 1), b.through(want, low, upper, 5, 0, 0, 0))
	}
	return b.between(onward(0, 1, low, upper), b.through(want, 5, 0, 0, 0))
}

// sameNode draws another leaf with the same node.
func sameNode(r *rand.Rand, b *back, leaf []byte) []byte {
	for {
		n := 2 + r.Intn(4)
		begun := drawn(r, n-2)
		length := []byte{byte(n + 1), 0, 0, 0}
		for _, ends := range b.between(onward(onward(0, 0), begun...), b.through(wantLeaf(leaf), length...)) {
			other := append(slices.Clone(begun), byte(ends%256), byte(ends/256))
			if !bytes.Equal(other, leaf) {
				return other
			}
		}
	}
}

// meet answers a leaf and a proof that come to the nodes of the other way at just those of the nodes needed, rising, that are named (0: at the leafs).
func meet(r *rand.Rand, b *back, n, i int, leaf []byte, proof []uint32, at ...int) ([]byte, []uint32) {
	way := wantWay(n, i, leaf, proof)
	for {
		other, q := drawn(r, r.Intn(5)), drawProof(r, len(proof))
		if at[0] == 0 {
			other = sameNode(r, b, leaf)
		}
		for row, first := range needed(n, i) {
			if slices.Contains(at, row+1) {
				node := sum(wantWay(n, i, other, q)[row]...)
				if fit := b.others(node, first, sum(way[row+1]...)); len(fit) > 0 {
					q[row] = fit[r.Intn(len(fit))]
				}
			}
		}
		met := func(row int) bool { return sum(wantWay(n, i, other, q)[row]...) == sum(way[row]...) }
		right := !bytes.Equal(other, leaf)
		for row := range way {
			right = right && met(row) == slices.Contains(at, row)
		}
		if right {
			return other, q
		}
	}
}

func TestS3Named(t *testing.T) {
	lab, hpc := []byte("lab"), []byte("hpc")
	askClash(t, 1, 0, lab, nil, hpc, nil, []byte("\x00lab"), []byte("\x00hpc"), api.OK)
	askClash(t, 1, 0, hpc, nil, lab, nil, []byte("\x00hpc"), []byte("\x00lab"), api.OK)
	askClash(t, 3, 0, lab, []uint32{7, 8}, hpc, []uint32{7, 8}, []byte("\x00lab"), []byte("\x00hpc"), api.OK)
	askWrong(t, 1, 0, lab, nil, lab, nil, api.ErrNone)
	askWrong(t, 1, 0, lab, nil, []byte("lac"), nil, api.ErrForm)
}

// All leafs of up to two bytes that have one node, alone.
func TestS3Leafs(t *testing.T) {
	leafs := [][]byte{{}}
	for i := range 256 {
		leafs = append(leafs, []byte{byte(i)})
	}
	for i := range 1 << 16 {
		leafs = append(leafs, []byte{byte(i >> 8), byte(i)})
	}
	alike := make([][][]byte, 1<<16)
	for at, leaf := range leafs {
		node := wantLeaf(leaf)
		for _, other := range alike[node] {
			askTold(t, 1, 0, other, nil, leaf, nil, 0)
		}
		alike[node] = append(alike[node], leaf)
		if next := leafs[(at+1)%len(leafs)]; wantLeaf(next) != node {
			askWrong(t, 1, 0, leaf, nil, next, nil, api.ErrForm)
		}
	}
}

// Two leafs, each with every node beside it: all that come to one root.
func TestS3Two(t *testing.T) {
	a, b := []byte("a"), []byte("b")
	for i := range 2 {
		var to [1 << 16][]uint32
		for node := range uint32(1 << 16) {
			root, _ := wantEnd(2, i, a, []uint32{node})
			to[root] = append(to[root], node)
		}
		for node := range uint32(1 << 16) {
			root, _ := wantEnd(2, i, b, []uint32{node})
			for _, other := range to[root] {
				askTold(t, 2, i, a, []uint32{other}, b, []uint32{node}, 1)
			}
		}
	}
}

// At each row of every place of some numbers of leafs, with the same nodes above it.
func TestS3EachRow(t *testing.T) {
	r, b := rand.New(rand.NewSource(90)), makeBack()
	for _, n := range []int{1, 2, 3, 4, 5, 6, 7, 8, 9, 12, 16, 17, 31, 32, 33, 47, 63, 64} {
		for i := range n {
			leaf, proof := drawn(r, r.Intn(5)), drawProof(r, len(needed(n, i)))
			for at := range len(proof) + 1 {
				// Below the row nothing is the same; from it on all is.
				var from []int
				for row := at; row <= len(proof); row++ {
					from = append(from, row)
				}
				other, q := meet(r, b, n, i, leaf, proof, from...)
				askTold(t, n, i, leaf, proof, other, q, at)
				copy(q[at:], proof[at:])
				askTold(t, n, i, leaf, proof, other, q, at)
			}
		}
	}
}

// Ways that come together, part and come together again: the lowest row alone is told.
func TestS3AgainApart(t *testing.T) {
	r, b := rand.New(rand.NewSource(91)), makeBack()
	for range 300 {
		n := 1 + r.Intn(api.MaxLeafs)
		i := r.Intn(n)
		leaf, proof := drawn(r, r.Intn(5)), drawProof(r, len(needed(n, i)))
		root := len(proof)
		for at := 0; at < root; at++ {
			other, q := meet(r, b, n, i, leaf, proof, at, root)
			askTold(t, n, i, leaf, proof, other, q, at)
		}
		if root >= 4 {
			other, q := meet(r, b, n, i, leaf, proof, 0, 2, root)
			askTold(t, n, i, leaf, proof, other, q, 0)
			other, q = meet(r, b, n, i, leaf, proof, 1, 3, root)
			askTold(t, n, i, leaf, proof, other, q, 1)
		}
	}
}

// Leafs as long as they may be: the texts are then as long as they may be, too.
func TestS3LongLeafs(t *testing.T) {
	r, b := rand.New(rand.NewSource(92)), makeBack()
	for range 20 {
		long := drawn(r, api.MaxText-1)
		askTold(t, 1, 0, long, nil, sameNode(r, b, long), nil, 0)
		proof := drawProof(r, 6)
		other, q := meet(r, b, 64, 40, long, proof, 3, 6)
		askTold(t, 64, 40, long, proof, other, q, 3)
		other, q = meet(r, b, 64, 40, long, proof, 0, 6)
		askTold(t, 64, 40, long, proof, other, q, 0)
	}
}

// sameLeaf answers another proof of the leaf that comes to the same root.
func sameLeaf(r *rand.Rand, b *back, n, i int, leaf []byte, proof []uint32) []uint32 {
	root, _ := wantEnd(n, i, leaf, proof)
	sides := needed(n, i)
	last := len(sides) - 1
	for {
		q := drawProof(r, len(proof))
		node := sum(wantWay(n, i, leaf, q)[last]...)
		if fit := b.others(node, sides[last], root); len(fit) > 0 {
			q[last] = fit[0]
			if !slices.Equal(q, proof) {
				return q
			}
		}
	}
}

// Of one leaf nothing is told, though its ways part above it.
func TestS3Same(t *testing.T) {
	r, b := rand.New(rand.NewSource(93)), makeBack()
	for n := 1; n <= api.MaxLeafs; n++ {
		for _, i := range []int{0, n / 2, n - 1} {
			leaf, proof := drawn(r, r.Intn(5)), drawProof(r, len(needed(n, i)))
			askWrong(t, n, i, leaf, proof, leaf, proof, api.ErrNone)
			if x, y, e := tree.Clash(n, i, leaf, proof, leaf, proof); len(x) != 0 || len(y) != 0 || e != api.ErrNone {
				t.Errorf("Clash of one leaf with itself told %v, %v, %d", x, y, e)
			}
			if len(proof) > 1 {
				askWrong(t, n, i, leaf, proof, leaf, sameLeaf(r, b, n, i, leaf, proof), api.ErrNone)
			}
		}
	}
	for _, a := range [][]byte{nil, {}} {
		for _, b := range [][]byte{nil, {}} {
			if x, y, e := tree.Clash(1, 0, a, nil, b, []uint32{}); len(x) != 0 || len(y) != 0 || e != api.ErrNone {
				t.Errorf("Clash of empty leafs told %v, %v, %d", x, y, e)
			}
		}
	}
}

// What leads to no root is told of either leaf and of both, also ahead of leafs that are the same.
func TestS3Form(t *testing.T) {
	r, b := rand.New(rand.NewSource(94)), makeBack()
	for _, n := range []int{1, 2, 3, 5, 6, 8, 33, 64} {
		for i := range n {
			leaf, proof := drawn(r, r.Intn(5)), drawProof(r, len(needed(n, i)))
			other := sameNode(r, b, leaf)
			askTold(t, n, i, leaf, proof, other, proof, 0)
			wrong := [][]uint32{append(slices.Clone(proof), 0), append(slices.Clone(proof), 65536), make([]uint32, 64)}
			for at := range proof {
				wrong = append(wrong, proof[:at])
				for _, node := range []uint32{proof[at] + 1<<16, proof[at] + 1<<31, math.MaxUint32} {
					turned := slices.Clone(proof)
					turned[at] = node
					wrong = append(wrong, turned)
				}
			}
			for _, q := range wrong {
				askWrong(t, n, i, leaf, proof, other, q, api.ErrForm)
				askWrong(t, n, i, leaf, q, other, q, api.ErrForm)
				askWrong(t, n, i, leaf, proof, leaf, q, api.ErrForm)
				askWrong(t, n, i, leaf, q, leaf, q, api.ErrForm)
			}
		}
	}
}

// Two ways to two roots, of different leafs or of one.
func TestS3Roots(t *testing.T) {
	r := rand.New(rand.NewSource(95))
	for range 5000 {
		n := 1 + r.Intn(api.MaxLeafs)
		i := r.Intn(n)
		a, p := drawn(r, r.Intn(5)), drawProof(r, len(needed(n, i)))
		b, q := drawn(r, r.Intn(5)), drawProof(r, len(needed(n, i)))
		root, _ := wantEnd(n, i, a, p)
		for _, leaf := range [][]byte{a, b} {
			for _, proof := range [][]uint32{p, q} {
				if end, _ := wantEnd(n, i, leaf, proof); end != root {
					askWrong(t, n, i, a, p, leaf, proof, api.ErrForm)
				}
			}
		}
	}
}

// askKinds asks of leafs of which at least one has the long text or the many nodes, with others that are right or wrong in other ways.
func askKinds(t *testing.T, n, i int, long []byte, many []uint32, wrong api.Errno) {
	t.Helper()
	leaf, other := []byte("lab"), []byte("hpc")
	right := make([]uint32, 6)
	for _, q := range [][]uint32{right, nil, {65536}, many} {
		askWrong(t, n, i, leaf, right, long, q, wrong)
		askWrong(t, n, i, leaf, nil, long, q, wrong)
		askWrong(t, n, i, long, right, long, q, wrong)
	}
	for _, text := range [][]byte{leaf, other, long} {
		askWrong(t, n, i, leaf, right, text, many, wrong)
		askWrong(t, n, i, leaf, []uint32{65536}, text, many, wrong)
		askWrong(t, n, i, leaf, many, text, many, wrong)
	}
}

func TestS3Errors(t *testing.T) {
	long, many := make([]byte, 4096), make([]uint32, 65)
	// ErrArg comes ahead of all, ErrLarge ahead of the others.
	for _, n := range farCounts {
		for _, i := range []int{0, -1, 63, n - 1, n} {
			askKinds(t, n, i, []byte("lab"), []uint32{1}, api.ErrArg)
			askKinds(t, n, i, long, many, api.ErrArg)
		}
	}
	for _, n := range []int{1, 2, 3, 63, 64} {
		for _, i := range far(n) {
			askKinds(t, n, i, []byte("lab"), []uint32{1}, api.ErrArg)
			askKinds(t, n, i, long, many, api.ErrArg)
		}
		for _, i := range []int{0, n / 2, n - 1} {
			for _, size := range []int{4096, 4097, 8192, 1<<16 + 1} {
				askKinds(t, n, i, make([]byte, size), many, api.ErrLarge)
			}
			for _, size := range []int{65, 66, 128, 1 << 12} {
				askKinds(t, n, i, long, slices.Repeat([]uint32{65536}, size), api.ErrLarge)
			}
		}
	}
}
