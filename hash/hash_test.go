package hash_test

import (
	"bytes"
	"math"
	"math/rand"
	"slices"
	"testing"

	"lockwright/api"
	"lockwright/hash"
)

// farLengths: no text has so many bytes.
var farLengths = []int{4097, 4098, 4100, 4101, 8191, 8192, 8193, 1 << 16, 1<<16 + 1, 1 << 20, 1 << 24}

// onlyOne answers the bits of which just one has one of both.
func onlyOne(a, b uint64) uint64 { return a&^b | b&^a }

// wantStep: R1's words of Step, reckoned where nothing wraps round.
func wantStep(h uint32, b byte) uint32 {
	x := onlyOne(uint64(h), uint64(b))
	y := x * 40503 % 65536
	return uint32(onlyOne(y, y/128))
}

// wantMixes: the mixes of the text's bytes, then those of its length, byte by byte.
func wantMixes(text []byte) []api.Mix {
	h := uint32(0)
	var all []api.Mix
	mix := func(b byte) {
		all = append(all, api.Mix{H: h, B: b})
		h = wantStep(h, b)
	}
	for _, b := range text {
		mix(b)
	}
	rest := len(text)
	for range 4 {
		mix(byte(rest % 256))
		rest /= 256
	}
	return all
}

func wantSum(text []byte) uint32 {
	all := wantMixes(text)
	last := all[len(all)-1]
	return wantStep(last.H, last.B)
}

// apart tells whether the mixes so many places from behind are not the same, and all behind them are.
func apart(p, q []api.Mix, back int) bool {
	p, q = p[len(p)-back:], q[len(q)-back:]
	return p[0] != q[0] && slices.Equal(p[1:], q[1:])
}

// wantClash tries the places from the front.
func wantClash(a, b []byte) (api.Mix, api.Mix) {
	p, q := wantMixes(a), wantMixes(b)
	back := min(len(p), len(q))
	for !apart(p, q, back) {
		back--
	}
	return p[len(p)-back], q[len(q)-back]
}

func drawn(r *rand.Rand, n int) []byte {
	text := make([]byte, n)
	r.Read(text)
	return text
}

// guarded lays a text into longer memory, and answers it with what asks whether that is still as it was.
func guarded(text []byte, fill byte) ([]byte, func() bool) {
	longer := append(slices.Clone(text), fill, ^fill, fill, 0, 255, fill, 7)
	before := slices.Clone(longer)
	return longer[:len(text)], func() bool { return bytes.Equal(longer, before) }
}

// brief cuts off what is too long to be told.
func brief(text []byte) []byte { return text[:min(len(text), 12)] }

func askSum(t *testing.T, text []byte, want uint32, wrong api.Errno) {
	t.Helper()
	for _, fill := range []byte{0, 255} {
		given, same := guarded(text, fill)
		h, e := hash.Sum(given)
		if h != want || e != wrong {
			t.Errorf("Sum(%v, %d bytes) = %d, %d; want %d, %d", brief(text), len(text), h, e, want, wrong)
		}
		if !same() {
			t.Errorf("Sum(%v, %d bytes) changed what was given", brief(text), len(text))
		}
	}
}

func askClash(t *testing.T, a, b []byte, first, second api.Mix, wrong api.Errno) {
	t.Helper()
	for _, fill := range []byte{0, 255} {
		givenA, sameA := guarded(a, fill)
		givenB, sameB := guarded(b, ^fill)
		m, n, e := hash.Clash(givenA, givenB)
		if m != first || n != second || e != wrong {
			t.Errorf("Clash(%v, %v; %d and %d bytes) = %v, %v, %d; want %v, %v, %d", brief(a), brief(b), len(a), len(b), m, n, e, first, second, wrong)
		}
		if !sameA() || !sameB() {
			t.Errorf("Clash(%v, %v; %d and %d bytes) changed what was given", brief(a), brief(b), len(a), len(b))
		}
	}
}

// askBoth asks of two texts with one Sum, either one first.
func askBoth(t *testing.T, a, b []byte) {
	t.Helper()
	m, n := wantClash(a, b)
	if m == n || wantStep(m.H, m.B) != wantStep(n.H, n.B) {
		t.Errorf("%v, %v of %v, %v are no clash", m, n, brief(a), brief(b))
	}
	askClash(t, a, b, m, n, api.OK)
	askClash(t, b, a, n, m, api.OK)
}

func askWrong(t *testing.T, a, b []byte, wrong api.Errno) {
	t.Helper()
	askClash(t, a, b, api.Mix{}, api.Mix{}, wrong)
	askClash(t, b, a, api.Mix{}, api.Mix{}, wrong)
}

func TestR1StepNamed(t *testing.T) {
	named := []struct {
		h    uint32
		b    byte
		want uint32
	}{
		{0, 0, 0}, {0, 1, 40715}, {1, 0, 40715}, {1, 1, 0}, {0, 255, 39416}, {255, 255, 0}, {256, 0, 14190},
		{65535, 0, 24842}, {65535, 255, 51346}, {40503, 0, 60942}, {40503, 7, 40296},
		// What h has above 16 bits is mixed, too, but goes when what is left is taken.
		{65536, 0, 0}, {65537, 0, 40715}, {math.MaxUint32, 0, 24842}, {math.MaxUint32, 255, 51346}, {0x12345678, 0x9a, 9923},
	}
	for _, w := range named {
		if h := hash.Step(w.h, w.b); h != w.want || wantStep(w.h, w.b) != w.want {
			t.Errorf("Step(%d, %d) = %d; want %d", w.h, w.b, h, w.want)
		}
	}
}

// Every byte, with every h that comes of a Step, and with some above.
func TestR1StepEvery(t *testing.T) {
	r := rand.New(rand.NewSource(71))
	for low := range uint32(1 << 16) {
		for _, h := range []uint32{low, r.Uint32(), low << 16, low | 1<<31} {
			b := byte(r.Intn(256))
			if got, want := hash.Step(h, b), wantStep(h, b); got != want || got > 65535 {
				t.Fatalf("Step(%d, %d) = %d; want %d", h, b, got, want)
			}
		}
		for b := range 256 {
			if got, want := hash.Step(low, byte(b)), wantStep(low, byte(b)); got != want {
				t.Fatalf("Step(%d, %d) = %d; want %d", low, b, got, want)
			}
		}
	}
	for bit := range 32 {
		for b := range 256 {
			for _, h := range []uint32{1 << bit, 1<<bit - 1, -(1 << bit)} {
				if got, want := hash.Step(h, byte(b)), wantStep(h, byte(b)); got != want {
					t.Errorf("Step(%d, %d) = %d; want %d", h, b, got, want)
				}
			}
		}
	}
}

func TestR1SumNamed(t *testing.T) {
	askSum(t, nil, 0, api.OK)
	if h, e := hash.Sum([]byte{}); h != 0 || e != api.OK {
		t.Errorf("Sum of no text = %d, %d", h, e)
	}
	named := []struct {
		text string
		want uint32
	}{
		{"\x00", 39102}, {"\x00\x00", 54642}, {"\x01", 12155}, {"\xff", 41831}, {"a", 50796},
		// The first byte comes first.
		{"ab", 25983}, {"ba", 13113}, {"abc", 43740}, {"lockwright", 47202},
	}
	for _, w := range named {
		askSum(t, []byte(w.text), w.want, api.OK)
	}
	// Of bytes that are 0 the length alone is mixed: its lowest eight bits first.
	for n, want := range map[int]uint32{255: 50497, 256: 33883, 257: 3971, 4095: 50131, 4096: 57721} {
		askSum(t, make([]byte, n), want, api.OK)
	}
	askSum(t, bytes.Repeat([]byte{255}, 4096), 25556, api.OK)
}

func TestR1SumTwoBytes(t *testing.T) {
	for first := range 256 {
		askSum(t, []byte{byte(first)}, wantSum([]byte{byte(first)}), api.OK)
		for second := range 256 {
			text := []byte{byte(first), byte(second)}
			askSum(t, text, wantSum(text), api.OK)
		}
	}
}

// Every length up to MaxText; so each byte counts, and how many there are.
func TestR1SumLengths(t *testing.T) {
	r := rand.New(rand.NewSource(72))
	for n := range api.MaxText + 1 {
		text := drawn(r, n)
		askSum(t, text, wantSum(text), api.OK)
		same := bytes.Repeat([]byte{byte(n)}, n)
		askSum(t, same, wantSum(same), api.OK)
	}
}

// One byte turned anywhere turns the Sum, as each Step turns two h to two others.
func TestR1SumEachByte(t *testing.T) {
	text := drawn(rand.New(rand.NewSource(73)), 300)
	before, _ := hash.Sum(text)
	for at := range text {
		for turn := 1; turn < 256; turn++ {
			text[at] ^= byte(turn)
			if h, _ := hash.Sum(text); h == before {
				t.Errorf("the byte %d of the text, turned by %d, makes the same Sum", at, turn)
			}
			text[at] ^= byte(turn)
		}
	}
}

func TestR1Large(t *testing.T) {
	r := rand.New(rand.NewSource(74))
	askSum(t, make([]byte, 4096), 57721, api.OK)
	for _, n := range farLengths {
		askSum(t, make([]byte, n), 0, api.ErrLarge)
		askSum(t, drawn(r, n), 0, api.ErrLarge)
	}
}

func TestR2Named(t *testing.T) {
	askClash(t, nil, []byte{0xcf, 0xab}, api.Mix{H: 0, B: 0}, api.Mix{H: 2, B: 2}, api.OK)
	askClash(t, []byte{0xcf, 0xab}, nil, api.Mix{H: 2, B: 2}, api.Mix{H: 0, B: 0}, api.OK)
	askClash(t, []byte{0xec}, []byte{0xd3, 0x1a}, api.Mix{H: 56065, B: 1}, api.Mix{H: 56066, B: 2}, api.OK)
	askClash(t, []byte("aaa"), []byte("pdh"), api.Mix{H: 33236, B: 'a'}, api.Mix{H: 33245, B: 'h'}, api.OK)
	askClash(t, []byte("pdh"), []byte("aaa"), api.Mix{H: 33245, B: 'h'}, api.Mix{H: 33236, B: 'a'}, api.OK)
	askWrong(t, []byte{1}, []byte{1}, api.ErrArg)
	askWrong(t, []byte{1}, []byte{2}, api.ErrNone)
}

// All texts of up to two bytes that have one Sum, and each one with the text next to it, which has another.
func TestR2TwoBytes(t *testing.T) {
	texts := [][]byte{{}}
	for i := range 256 {
		texts = append(texts, []byte{byte(i)})
	}
	for i := range 1 << 16 {
		texts = append(texts, []byte{byte(i >> 8), byte(i)})
	}
	alike := make([][][]byte, 1<<16)
	for i, text := range texts {
		h := wantSum(text)
		for _, other := range alike[h] {
			askBoth(t, other, text)
		}
		alike[h] = append(alike[h], text)
		if next := texts[(i+1)%len(texts)]; wantSum(next) != h {
			askWrong(t, text, next, api.ErrNone)
		}
	}
}

// gone answers what comes of h when all bytes are mixed into it.
func gone(h uint32, text []byte) uint32 {
	for _, b := range text {
		h = wantStep(h, b)
	}
	return h
}

// bent answers a text with the same Sum that differs at the byte at, and at up to two ahead of it, alone; not all are to be had.
func bent(r *rand.Rand, text []byte, at int) ([]byte, bool) {
	from := max(at-2, 0)
	h := gone(0, text[:from])
	old := gone(h, text[from:at])
	for range 1 << 14 {
		between := drawn(r, at-from)
		now := gone(h, between)
		// A byte can make up for what two h have apart only in the lowest eight bits.
		if now>>8 != old>>8 || now == old {
			continue
		}
		other := slices.Clone(text)
		copy(other[from:], between)
		other[at] ^= byte(now ^ old)
		return other, true
	}
	return nil, false
}

// The byte at which two texts of one length come together stands at any place but the first.
func TestR2EachPlace(t *testing.T) {
	r := rand.New(rand.NewSource(75))
	for _, n := range []int{2, 3, 4, 5, 8, 20, 255, 256, 257, 300} {
		text := drawn(r, n)
		if _, found := bent(r, text, 0); found {
			t.Errorf("the first byte alone of %v came to one Sum", brief(text))
		}
		for at := 1; at < n; at++ {
			other, found := bent(r, text, at)
			if !found && at > 1 {
				t.Errorf("no text found with the Sum of %v by the byte %d", brief(text), at)
			}
			if !found {
				continue
			}
			askBoth(t, text, other)
			m, o, _ := hash.Clash(text, other)
			if m.B != text[at] || o.B != other[at] || m.H != gone(0, text[:at]) || o.H != gone(0, other[:at]) {
				t.Errorf("Clash of two texts that come together at %d told %v, %v", at, m, o)
			}
		}
	}
}

// Texts that come together, part and come together again: the last place alone is told.
func TestR2AgainApart(t *testing.T) {
	r := rand.New(rand.NewSource(76))
	for range 200 {
		n := 20 + r.Intn(api.MaxText-19)
		text := drawn(r, n)
		other := text
		at := 2
		for range 4 {
			next, found := bent(r, other, at)
			if found {
				other = next
				askBoth(t, text, other)
				if m, o, _ := hash.Clash(text, other); m.B != text[at] || o.B != other[at] {
					t.Errorf("Clash of two texts that come together at %d last told %v, %v", at, m, o)
				}
			}
			at += 3 + r.Intn((n-at)/4)
		}
	}
}

// withSum turns the last three bytes of the text so that its Sum is h.
func withSum(r *rand.Rand, text []byte, h uint32) []byte {
	n := len(text)
	length := []byte{byte(n % 256), byte(n / 256), 0, 0}
	begin := gone(0, text[:n-3])
	for {
		end := drawn(r, 3)
		if gone(gone(begin, end), length) == h {
			return append(slices.Clone(text[:n-3]), end...)
		}
	}
}

// Texts of two lengths: they come together at the upper one of the two bytes of these that are not 0, if it is not the same, else at the lower one.
func TestR2Lengths(t *testing.T) {
	r := rand.New(rand.NewSource(77))
	pairs := [][2]int{{0, 3}, {0, 255}, {0, 256}, {0, 4096}, {1, 3}, {1, 256}, {1, 257}, {2, 3}, {3, 4}, {3, 7}, {3, 259}, {5, 4}, {255, 256}, {256, 512}, {256, 257}, {511, 512}, {3840, 4096}, {4095, 4096}, {4096, 3841}}
	for range 40 {
		pairs = append(pairs, [2]int{r.Intn(api.MaxText + 1), 3 + r.Intn(api.MaxText-2)})
	}
	for _, pair := range pairs {
		if pair[0] == pair[1] {
			continue
		}
		a := drawn(r, pair[0])
		b := withSum(r, drawn(r, pair[1]), wantSum(a))
		askBoth(t, a, b)
		first, second := pair[0]/256, pair[1]/256
		if first == second {
			first, second = pair[0]%256, pair[1]%256
		}
		if m, n, _ := hash.Clash(a, b); int(m.B) != first || int(n.B) != second {
			t.Errorf("Clash of texts of %v bytes told %v, %v", pair, m, n)
		}
	}
}

// A text that goes on where the other one ends, or that begins later, is another text.
func TestR2OneInTheOther(t *testing.T) {
	r := rand.New(rand.NewSource(78))
	for n := 0; n < 200; n += 7 {
		long := withSum(r, drawn(r, n+3), wantSum(nil))
		askBoth(t, nil, long)
		begun := drawn(r, n)
		askBoth(t, begun, withSum(r, append(slices.Clone(begun), 0, 0, 0), wantSum(begun)))
		ended := withSum(r, drawn(r, n+3), wantSum(begun))
		askBoth(t, begun, ended)
	}
	askWrong(t, nil, []byte{0, 0, 0, 0}, api.ErrNone)
	askWrong(t, nil, []byte{0}, api.ErrNone)
	askWrong(t, []byte{7}, []byte{7, 1, 0, 0, 0}, api.ErrNone)
	askWrong(t, []byte{7}, []byte{0, 7}, api.ErrNone)
}

func TestR2Same(t *testing.T) {
	r := rand.New(rand.NewSource(79))
	for n := 0; n <= api.MaxText; n += 1 + n/5 {
		text := drawn(r, n)
		askWrong(t, text, text, api.ErrArg)
		if _, _, e := hash.Clash(text, text); e != api.ErrArg {
			t.Errorf("Clash of one text of %d bytes with itself told %d", n, e)
		}
	}
	askWrong(t, make([]byte, api.MaxText), make([]byte, api.MaxText), api.ErrArg)
	for _, a := range [][]byte{nil, {}} {
		for _, b := range [][]byte{nil, {}} {
			if m, n, e := hash.Clash(a, b); m != (api.Mix{}) || n != (api.Mix{}) || e != api.ErrArg {
				t.Errorf("Clash of no texts = %v, %v, %d", m, n, e)
			}
		}
	}
}

func TestR2None(t *testing.T) {
	r := rand.New(rand.NewSource(80))
	for range 2000 {
		a, b := drawn(r, r.Intn(60)), drawn(r, r.Intn(60))
		if wantSum(a) != wantSum(b) {
			askWrong(t, a, b, api.ErrNone)
		}
	}
	// Where one byte alone differs, no other one makes up for it.
	text := drawn(r, api.MaxText)
	for at := 0; at < len(text); at += 97 {
		other := slices.Clone(text)
		other[at]++
		askWrong(t, text, other, api.ErrNone)
	}
}

// What is too large is told of either text, ahead of texts that are the same, and of Sums that are not.
func TestR2Large(t *testing.T) {
	r := rand.New(rand.NewSource(81))
	for _, n := range farLengths {
		long := drawn(r, n)
		for _, other := range [][]byte{nil, {1}, make([]byte, api.MaxText), long[:api.MaxText], long, drawn(r, n), drawn(r, 4097)} {
			askWrong(t, long, other, api.ErrLarge)
		}
	}
	text := drawn(r, api.MaxText)
	askBoth(t, text, withSum(r, drawn(r, api.MaxText), wantSum(text)))
}
