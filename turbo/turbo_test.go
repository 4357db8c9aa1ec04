package turbo_test

import (
	"iter"
	"math"
	"math/bits"
	"math/rand"
	"slices"
	"testing"

	"userplane/api"
	"userplane/qpp"
	"userplane/segment"
	"userplane/trellis"
	"userplane/turbo"
)

// known are input bits and their words, from a computation of its own that uses nothing of this program.
var known = [][2]string{
	{
		"1000000000000000000000000000000000000000",
		"100000000000000000000000000000000000000001011111001011100101110010111001011100101110010111110010111001011100101110010111001011100101",
	},
	{
		"1111111111111111111111111111111111111111",
		"111111111111111111111111111111111111111111111010001101000110100011010001101000110100000010100011010001101000110100011010001101001010",
	},
	{
		"1101000011010000110100010000000011000011",
		"110100001101000011010001000000001100001100001001010101011110110010001001011110100111110011101100101000000100110100110011010011001100",
	},
	{
		"011001011010111110110010110111010000011111011010",
		"011001011010111110110010110111010000011111011010110101000011011111010110101000100101111000001110101100010000011010010010111001111001101011110110100111111001",
	},
	{
		"01101101110001100010011110001100010011001101011111111001",
		"011011011100011000100111100011000100110011010111111110011111010011000001100011011100001100011011101011001100011011001100000110101001101001100110101010011111111001110001001111110110",
	},
}

// sums are block sizes, with the number of ones, a sum over all bits and the ends of the three streams of the word of stripes(k), from the same computation.
var sums = []struct {
	k, ones, sum int
	ends         [3]string
}{
	{528, 784, 201003, [3]string{"0011", "0011", "0001"}},
	{1056, 1527, 569485, [3]string{"1010", "1010", "0000"}},
	{6144, 8925, 863954, [3]string{"0001", "0001", "0001"}},
}

// noSizes are integers that are no block size, some of them equal to one if they were cut.
var noSizes = []int{0, 1, 2, 7, 8, 32, 39, 41, 42, 47, 49, 513, 520, 1025, 1040, 2049, 2080, 6143, 6145, 6146, 6152, 6208, 12288, 1<<16 + 40, 1<<32 + 40, math.MaxInt32, math.MaxInt - 63, math.MaxInt - 1, math.MaxInt, -1, -2, -3, -4, -8, -39, -40, -41, -6144, math.MinInt32, math.MinInt + 40, math.MinInt + 1, math.MinInt}

// noCodes are integers that are no code.
var noCodes = []int{0, -1, -2, -3, 3, 4, 5, 8, 40, 255, 256, 257, 258, 1<<16 + 1, 1<<32 + 1, 1<<32 + 2, math.MaxInt32, math.MinInt32, math.MaxInt - 1, math.MaxInt, math.MinInt, math.MinInt + 1, math.MinInt + 2}

// some are block sizes of each step, the least and the greatest among them.
var some = []int{40, 48, 64, 120, 512, 528, 1008, 1024, 1056, 2048, 2112, 6080, 6144}

// digits returns the bits of a string of digits.
func digits(s string) []byte {
	l := make([]byte, len(s))
	for i := range l {
		l[i] = s[i] - '0'
	}
	return l
}

// stripes returns k bits that follow a rule.
func stripes(k int) []byte {
	l := make([]byte, k)
	for i := range l {
		l[i] = byte((i*i/3 + i/7) & 1)
	}
	return l
}

func randomBits(random *rand.Rand, n int) []byte {
	b := make([]byte, n)
	for i := range b {
		b[i] = byte(random.Intn(2))
	}
	return b
}

// word returns the word by the definition, stream by stream.
func word(bits []byte) []byte {
	k := len(bits)
	f1, f2, _ := qpp.Params(k)
	interleaved := make([]byte, k)
	for i := range interleaved {
		interleaved[i] = bits[(f1*i+f2*i*i)%k]
	}
	parity, state, _ := trellis.Encode(bits)
	second, last, _ := trellis.Encode(interleaved)
	x, z, _ := trellis.Tail(state)
	xx, zz, _ := trellis.Tail(last)
	return slices.Concat(
		bits, []byte{x[0], z[1], xx[0], zz[1]},
		parity, []byte{z[0], x[2], zz[0], xx[2]},
		second, []byte{x[1], z[2], xx[1], zz[2]},
	)
}

// layout returns the layout of a code by the definition.
func layout(k, code int) (systematic, parity []int) {
	f1, f2, _ := qpp.Params(k)
	for i := range k {
		at := i
		if code == 2 {
			at = (f1*i + f2*i*i) % k
		}
		systematic = append(systematic, at)
		parity = append(parity, code*(k+4)+i)
	}
	stream0, stream1, stream2 := k, k+4+k, 2*(k+4)+k // the places of the tails
	if code == 1 {
		return append(systematic, stream0, stream2, stream1+1), append(parity, stream1, stream0+1, stream2+1)
	}
	return append(systematic, stream0+2, stream2+2, stream1+3), append(parity, stream1+2, stream0+3, stream2+3)
}

// zip returns the pairs of two lists of equal length.
func zip(a, b []int) [][2]int {
	l := [][2]int{}
	for i := range a {
		l = append(l, [2]int{a[i], b[i]})
	}
	return l
}

// pairs returns what an iterator yields.
func pairs(s iter.Seq2[int, int]) [][2]int {
	l := [][2]int{}
	for a, b := range s {
		l = append(l, [2]int{a, b})
	}
	return l
}

// added returns the exclusive or of two slices of equal length.
func added(a, b []byte) []byte {
	c := make([]byte, len(a))
	for i := range c {
		c[i] = a[i] ^ b[i]
	}
	return c
}

// ones returns the number of ones.
func ones(bits []byte) int {
	n := 0
	for _, bit := range bits {
		n += int(bit)
	}
	return n
}

// one returns k bits, the i-th of which is 1.
func one(k, i int) []byte {
	b := make([]byte, k)
	b[i] = 1
	return b
}

// with returns a copy of bits that has another element at place i.
func with(bits []byte, i int, element byte) []byte {
	c := slices.Clone(bits)
	c[i] = element
	return c
}

// places returns the first and last places of each stream of a word of k bits, and of its tails, and some others.
func places(k int) []int {
	var l []int
	for s := range 3 {
		for _, i := range []int{0, 1, k / 3, k / 2, k - 2, k - 1, k, k + 1, k + 2, k + 3} {
			l = append(l, s*(k+4)+i)
		}
	}
	return l
}

func expectSize(t *testing.T, k, want int) {
	t.Helper()
	if got := turbo.Size(k); got != want {
		t.Errorf("Size(%d) = %d; want %d", k, got, want)
	}
}

func expectEncode(t *testing.T, bits, want []byte, wantError api.Errno) {
	t.Helper()
	if got, e := turbo.Encode(bits); !slices.Equal(got, want) || e != wantError {
		t.Errorf("Encode of %d bits: %d bits, or not as defined, error %v; want %d bits, error %v", len(bits), len(got), e, len(want), wantError)
	}
}

func expectBits(t *testing.T, w, want []byte, wantError api.Errno) {
	t.Helper()
	if got, e := turbo.Bits(w); !slices.Equal(got, want) || e != wantError {
		t.Errorf("Bits of %d bits: %d bits, or not as defined, error %v; want %d bits, error %v", len(w), len(got), e, len(want), wantError)
	}
}

func expectCheck(t *testing.T, w []byte, want api.Errno) {
	t.Helper()
	if e := turbo.Check(w); e != want {
		t.Errorf("Check of %d bits: error %v; want %v", len(w), e, want)
	}
}

func expectLayout(t *testing.T, k, code int, wantSystematic, wantParity []int, wantError api.Errno) {
	t.Helper()
	x, z, e := turbo.Layout(k, code)
	if !slices.Equal(x, wantSystematic) || !slices.Equal(z, wantParity) || e != wantError {
		t.Errorf("Layout(%d, %d): %d and %d indices, or not as defined, error %v; want %d and %d, error %v", k, code, len(x), len(z), e, len(wantSystematic), len(wantParity), wantError)
	}
}

func expectSteps(t *testing.T, k, code int, s iter.Seq2[int, int], want [][2]int) {
	t.Helper()
	if got := pairs(s); !slices.Equal(got, want) {
		t.Fatalf("Steps(%d, %d) yields %d pairs, or not as defined; want %d", k, code, len(got), len(want))
	}
}

// encoded returns the result of Encode for valid bits.
func encoded(t *testing.T, bits []byte) []byte {
	t.Helper()
	w, e := turbo.Encode(bits)
	if e != api.OK || len(w) != 3*(len(bits)+4) {
		t.Fatalf("Encode of %d bits: %d bits, error %v", len(bits), len(w), e)
	}
	return w
}

func TestExamples(t *testing.T) {
	expectSize(t, 40, 132)
	expectSize(t, 41, 0)
	expectEncode(t, make([]byte, 40), make([]byte, 132), api.OK)
	want := make([]byte, 132)
	for _, i := range []int{39, 42, 83, 84, 85, 87, 111, 112, 113, 114, 117, 119, 120, 121, 124, 126, 127, 128, 129, 130, 131} {
		want[i] = 1
	}
	expectEncode(t, one(40, 39), want, api.OK)
	x, z, e := turbo.Layout(40, 1)
	wantX, wantZ := make([]int, 40), make([]int, 40)
	for i := range 40 {
		wantX[i], wantZ[i] = i, 44+i
	}
	if !slices.Equal(x, append(wantX, 40, 128, 85)) || !slices.Equal(z, append(wantZ, 84, 41, 129)) || e != api.OK {
		t.Errorf("Layout(40, 1) = %v, %v, %v", x, z, e)
	}
	x, z, e = turbo.Layout(40, 2)
	for i := range 40 {
		wantZ[i] = 88 + i
	}
	if len(x) != 43 || x[0] != 0 || x[1] != 13 || x[2] != 6 || !slices.Equal(x[40:], []int{42, 130, 87}) || !slices.Equal(z, append(wantZ[:40], 86, 43, 131)) || e != api.OK {
		t.Errorf("Layout(40, 2) = %v, %v, %v", x, z, e)
	}
}

// P8.1

// TestSizeOfEveryInteger tries every block size, the numbers beside it, and all others around them.
func TestSizeOfEveryInteger(t *testing.T) {
	sizes := segment.Sizes()
	for k := -7000; k <= 20000; k++ {
		want := 0
		if slices.Contains(sizes, k) {
			want = 3 * (k + 4)
		}
		expectSize(t, k, want)
	}
	for _, k := range noSizes {
		expectSize(t, k, 0)
	}
	for _, x := range [][2]int{{40, 132}, {48, 156}, {512, 1548}, {528, 1596}, {1024, 3084}, {2048, 6156}, {2112, 6348}, {6144, 18444}} {
		expectSize(t, x[0], x[1])
	}
}

func TestKnownWords(t *testing.T) {
	for _, x := range known {
		bits, w := digits(x[0]), digits(x[1])
		expectEncode(t, bits, w, api.OK)
		expectBits(t, w, bits, api.OK)
		expectCheck(t, w, api.OK)
	}
	for _, x := range sums {
		w, sum := encoded(t, stripes(x.k)), 0
		for _, bit := range w {
			sum = (sum*31 + int(bit) + 1) % 1000003
		}
		if ones(w) != x.ones || sum != x.sum {
			t.Errorf("K %d: %d ones, sum %d; want %d, %d", x.k, ones(w), sum, x.ones, x.sum)
		}
		for s, want := range x.ends {
			if got := w[s*(x.k+4)+x.k:][:4]; !slices.Equal(got, digits(want)) {
				t.Errorf("K %d, stream %d ends with %v; want %s", x.k, s, got, want)
			}
		}
	}
}

func TestEncodeOfEverySize(t *testing.T) {
	random := rand.New(rand.NewSource(1))
	for _, k := range segment.Sizes() {
		for _, bits := range [][]byte{make([]byte, k), slices.Repeat([]byte{1}, k), one(k, 0), one(k, k-1), stripes(k), randomBits(random, k), randomBits(random, k)} {
			expectEncode(t, bits, word(bits), api.OK)
		}
		if ones(encoded(t, make([]byte, k))) != 0 {
			t.Errorf("the word of %d zeros is not 0", k)
		}
	}
}

// TestEncodeEndsInEveryState has enough inputs that both codes have every tail.
func TestEncodeEndsInEveryState(t *testing.T) {
	random := rand.New(rand.NewSource(2))
	reached := map[[2]int]bool{}
	for range 2000 {
		bits := randomBits(random, 40)
		interleaved, _ := qpp.Bits(bits)
		_, first, _ := trellis.Encode(bits)
		_, second, _ := trellis.Encode(interleaved)
		reached[[2]int{first, second}] = true
		expectEncode(t, bits, word(bits), api.OK)
	}
	if len(reached) != 64 {
		t.Errorf("%d pairs of states are reached; want 64", len(reached))
	}
}

func TestEncodeOfOtherLengths(t *testing.T) {
	random := rand.New(rand.NewSource(3))
	expectEncode(t, nil, nil, api.ErrArg)
	expectEncode(t, []byte{}, nil, api.ErrArg)
	for n := range 6300 {
		if turbo.Size(n) == 0 {
			expectEncode(t, randomBits(random, n), nil, api.ErrArg)
		}
	}
	for _, n := range []int{12288, 18444, 1<<16 + 40, 1 << 20} {
		expectEncode(t, make([]byte, n), nil, api.ErrArg)
	}
}

func TestEncodeOfElementsThatAreNoBits(t *testing.T) {
	random := rand.New(rand.NewSource(4))
	for element := 2; element <= 255; element++ {
		for i := range 40 {
			expectEncode(t, with(make([]byte, 40), i, byte(element)), nil, api.ErrBit)
		}
		expectEncode(t, slices.Repeat([]byte{byte(element)}, 48), nil, api.ErrBit)
	}
	for _, k := range segment.Sizes() {
		bits := randomBits(random, k)
		for _, i := range []int{0, 1, k / 2, k - 2, k - 1} {
			expectEncode(t, with(bits, i, 2), nil, api.ErrBit)
			expectEncode(t, with(bits, i, 255), nil, api.ErrBit)
		}
	}
}

// P8.2

func TestBitsAndCheckOfEverySize(t *testing.T) {
	random := rand.New(rand.NewSource(5))
	for _, k := range segment.Sizes() {
		for _, bits := range [][]byte{make([]byte, k), slices.Repeat([]byte{1}, k), randomBits(random, k)} {
			w := word(bits)
			expectBits(t, w, bits, api.OK)
			expectCheck(t, w, api.OK)
		}
	}
}

// TestBitsOfOtherWords has bits that are the word of no input: Bits does not check.
func TestBitsOfOtherWords(t *testing.T) {
	random := rand.New(rand.NewSource(6))
	for _, k := range segment.Sizes() {
		w := randomBits(random, 3*(k+4))
		w[k] = 1 - word(w[:k])[k]
		expectBits(t, w, w[:k], api.OK)
		expectCheck(t, w, api.ErrCheck)
		w = slices.Repeat([]byte{1}, 3*(k+4))
		expectBits(t, w, w[:k], api.OK)
		expectCheck(t, w, api.ErrCheck)
	}
}

func TestCheckOfTheWordOfOtherBits(t *testing.T) {
	random := rand.New(rand.NewSource(7))
	for _, k := range some {
		bits := randomBits(random, k)
		other := randomBits(random, k)
		// The parity bits and the tails of other bits, with which the word is not one.
		w := append(slices.Clone(bits), encoded(t, other)[k:]...)
		expectCheck(t, w, api.ErrCheck)
		// The tails of a word that ends in another state.
		w, last := encoded(t, bits), encoded(t, with(bits, k-1, 1-bits[k-1]))
		for s := range 3 {
			copy(w[s*(k+4)+k:(s+1)*(k+4)], last[s*(k+4)+k:])
		}
		expectCheck(t, w, api.ErrCheck)
	}
}

// TestCheckOfExchangedParts has streams in another order, and the tails of the two codes exchanged.
func TestCheckOfExchangedParts(t *testing.T) {
	w := digits(known[2][1])
	expectCheck(t, slices.Concat(w[:44], w[88:], w[44:88]), api.ErrCheck)
	expectCheck(t, slices.Concat(w[44:88], w[:44], w[88:]), api.ErrCheck)
	exchanged := slices.Clone(w)
	for s := range 3 {
		end := exchanged[s*44+40 : s*44+44]
		end[0], end[1], end[2], end[3] = end[2], end[3], end[0], end[1]
	}
	expectBits(t, exchanged, w[:40], api.OK)
	expectCheck(t, exchanged, api.ErrCheck)
}

// expectNoWord expects that a slice has a length of no word.
func expectNoWord(t *testing.T, w []byte) {
	t.Helper()
	expectBits(t, w, nil, api.ErrArg)
	expectCheck(t, w, api.ErrArg)
}

func TestWordsOfOtherLengths(t *testing.T) {
	lengths := map[int]bool{}
	for _, k := range segment.Sizes() {
		lengths[3*(k+4)] = true
	}
	zeros := make([]byte, 1<<20)
	expectNoWord(t, nil)
	expectNoWord(t, []byte{})
	for n := range 19000 {
		if !lengths[n] {
			expectNoWord(t, zeros[:n])
		}
	}
	for _, n := range []int{3 * 6208, 3 * 12288, 3 * (1<<16 + 44), 1 << 20} {
		expectNoWord(t, zeros[:n])
	}
	// The input bits alone, and a codeword of one code, are no words.
	for _, k := range segment.Sizes() {
		if !lengths[k] {
			expectNoWord(t, zeros[:k])
		}
		if !lengths[2*k+6] {
			expectNoWord(t, zeros[:2*k+6])
		}
	}
}

// expectNoBits expects that a slice with the length of a word has an element that is no bit.
func expectNoBits(t *testing.T, w []byte) {
	t.Helper()
	expectBits(t, w, nil, api.ErrBit)
	expectCheck(t, w, api.ErrBit)
}

func TestWordsWithElementsThatAreNoBits(t *testing.T) {
	w := digits(known[2][1])
	for i := range w {
		for element := 2; element <= 255; element++ {
			expectNoBits(t, with(w, i, byte(element)))
		}
	}
	random := rand.New(rand.NewSource(8))
	for _, k := range segment.Sizes() {
		w := encoded(t, randomBits(random, k))
		for _, i := range places(k) {
			expectNoBits(t, with(w, i, 2))
			expectNoBits(t, with(w, i, 255))
		}
	}
}

// The order of the errors

func TestErrArgBeforeErrBit(t *testing.T) {
	for _, n := range []int{1, 39, 41, 43, 44, 123, 131, 133, 135, 520, 6145, 18443, 18445} {
		for _, element := range []byte{2, 255} {
			expectNoWord(t, slices.Repeat([]byte{element}, n))
			expectNoWord(t, with(make([]byte, n), 0, element))
			expectNoWord(t, with(make([]byte, n), n-1, element))
			expectEncode(t, slices.Repeat([]byte{element}, n), nil, api.ErrArg)
			expectEncode(t, with(make([]byte, n), n-1, element), nil, api.ErrArg)
		}
	}
}

// TestErrBitBeforeErrCheck has wrong bits before and behind the element that is no bit.
func TestErrBitBeforeErrCheck(t *testing.T) {
	random := rand.New(rand.NewSource(9))
	for _, k := range some {
		w := encoded(t, randomBits(random, k))
		for _, i := range places(k) {
			for _, wrong := range places(k) {
				if wrong != i {
					expectCheck(t, with(with(w, wrong, 1-w[wrong]), i, 2), api.ErrBit)
				}
			}
		}
	}
}

// P8.3

func TestLayoutAndStepsOfEverySize(t *testing.T) {
	for _, k := range segment.Sizes() {
		for code := 1; code <= 2; code++ {
			x, z := layout(k, code)
			expectLayout(t, k, code, x, z, api.OK)
			expectSteps(t, k, code, turbo.Steps(k, code), zip(x, z))
		}
	}
}

// expectNoLayout expects that arguments are invalid.
func expectNoLayout(t *testing.T, k, code int) {
	t.Helper()
	expectLayout(t, k, code, nil, nil, api.ErrArg)
	s := turbo.Steps(k, code)
	if s == nil {
		t.Fatalf("Steps(%d, %d) is nil", k, code)
	}
	for range 2 {
		expectSteps(t, k, code, s, nil)
	}
}

func TestLayoutAndStepsOfOtherIntegers(t *testing.T) {
	for k := -7000; k <= 13000; k++ {
		if turbo.Size(k) == 0 {
			expectNoLayout(t, k, 1)
			expectNoLayout(t, k, 2)
		}
	}
	for _, k := range noSizes {
		for _, code := range append([]int{1, 2}, noCodes...) {
			expectNoLayout(t, k, code)
		}
	}
	for _, k := range segment.Sizes() {
		for _, code := range noCodes {
			expectNoLayout(t, k, code)
		}
	}
	for code := -300; code <= 300; code++ {
		if code != 1 && code != 2 {
			expectNoLayout(t, 40, code)
		}
	}
}

// expectLeft leaves the loop after some pairs, and expects that the iterator starts again from the beginning.
func expectLeft(t *testing.T, s iter.Seq2[int, int], want [][2]int, end int) {
	t.Helper()
	got := [][2]int{}
	s(func(systematic, parity int) bool {
		got = append(got, [2]int{systematic, parity})
		return len(got) < end
	})
	if !slices.Equal(got, want[:end]) {
		t.Fatalf("left after %d pairs: %d pairs, or not as defined", end, len(got))
	}
	for systematic, parity := range s {
		if want[0] != [2]int{systematic, parity} {
			t.Fatalf("used again: %d, %d; want %v", systematic, parity, want[0])
		}
		break
	}
}

func TestStepsLeftEarlyAndUsedAgain(t *testing.T) {
	for _, k := range some {
		for code := 1; code <= 2; code++ {
			s, want := turbo.Steps(k, code), zip(layout(k, code))
			for _, end := range []int{1, 2, k - 1, k, k + 1, k + 2, k + 3} {
				expectLeft(t, s, want, end)
			}
			expectSteps(t, k, code, s, want)
			expectSteps(t, k, code, s, want)
		}
	}
	s, want := turbo.Steps(48, 2), zip(layout(48, 2))
	for end := 1; end <= 51; end++ {
		expectLeft(t, s, want, end)
	}
}

func TestStepsWithinThemselves(t *testing.T) {
	s, want := turbo.Steps(40, 2), zip(layout(40, 2))
	n := 0
	for systematic, parity := range s {
		expectSteps(t, 40, 2, s, want)
		turbo.Encode(make([]byte, 48))
		if want[n] != [2]int{systematic, parity} {
			t.Fatalf("pair %d: %d, %d; want %v", n, systematic, parity, want[n])
		}
		n++
	}
	if n != 43 {
		t.Errorf("%d pairs", n)
	}
}

// P8.4

func TestTheCodeIsLinear(t *testing.T) {
	random := rand.New(rand.NewSource(10))
	for _, k := range segment.Sizes() {
		a, b := randomBits(random, k), randomBits(random, k)
		expectEncode(t, added(a, b), added(encoded(t, a), encoded(t, b)), api.OK)
		expectEncode(t, added(a, a), make([]byte, 3*(k+4)), api.OK)
	}
	for range 500 {
		a, b := randomBits(random, 40), randomBits(random, 40)
		expectEncode(t, added(a, b), added(encoded(t, a), encoded(t, b)), api.OK)
	}
}

// at returns the bits at some indices.
func at(w []byte, indices []int) []byte {
	l := make([]byte, len(indices))
	for i, index := range indices {
		l[i] = w[index]
	}
	return l
}

// TestTheLayoutsMakeCodewords puts a codeword of layer 7 together from the bits of each code.
func TestTheLayoutsMakeCodewords(t *testing.T) {
	random := rand.New(rand.NewSource(11))
	for _, k := range segment.Sizes() {
		w := encoded(t, randomBits(random, k))
		for code := 1; code <= 2; code++ {
			systematic, parity, _ := turbo.Layout(k, code)
			x, z := at(w, systematic), at(w, parity)
			want, e := trellis.Word(x[:k])
			if got := slices.Concat(x[:k], z[:k], x[k:], z[k:]); !slices.Equal(got, want) || e != api.OK {
				t.Errorf("K %d, code %d: the bits are no codeword", k, code)
			}
		}
	}
}

func TestEveryIndexBelongsToOneList(t *testing.T) {
	for _, k := range segment.Sizes() {
		x, z, _ := turbo.Layout(k, 1)
		xx, zz, _ := turbo.Layout(k, 2)
		if len(x) != k+3 || len(z) != k+3 || len(xx) != k+3 || len(zz) != k+3 {
			t.Fatalf("K %d: %d, %d, %d and %d indices", k, len(x), len(z), len(xx), len(zz))
		}
		slices.Sort(x)
		slices.Sort(xx)
		if !slices.Equal(x[:k], xx[:k]) || x[k-1] != k-1 || xx[k-1] != k-1 {
			t.Fatalf("K %d: the first indices do not belong to both codes", k)
		}
		all := slices.Concat(x, z, xx[k:], zz)
		slices.Sort(all)
		for i, index := range all {
			if index != i {
				t.Fatalf("K %d: index %d is in no list, or in two", k, i)
			}
		}
		if len(all) != turbo.Size(k) {
			t.Errorf("K %d: %d indices", k, len(all))
		}
	}
}

// mask is a word of at most 256 bits.
type mask [4]uint64

func (m mask) plus(n mask) mask {
	return mask{m[0] ^ n[0], m[1] ^ n[1], m[2] ^ n[2], m[3] ^ n[3]}
}

func (m mask) ones() int {
	return bits.OnesCount64(m[0]) + bits.OnesCount64(m[1]) + bits.OnesCount64(m[2]) + bits.OnesCount64(m[3])
}

// lightest returns the least number of ones of a sum of some words: base, and 1 to most of the words from the first one on.
func lightest(words []mask, base mask, most int) int {
	least := math.MaxInt
	for i, w := range words {
		sum := base.plus(w)
		least = min(least, sum.ones())
		if most > 1 {
			least = min(least, lightest(words[i+1:], sum, most-1))
		}
	}
	return least
}

// TestWordsDifferIn6Bits goes through all differences of up to 5 input bits. More of them are at least 6 bits by themselves.
func TestWordsDifferIn6Bits(t *testing.T) {
	for _, k := range []int{40, 48, 56} {
		var words []mask
		for i := range k {
			var m mask
			for at, bit := range encoded(t, one(k, i)) {
				m[at/64] |= uint64(bit) << (at % 64)
			}
			words = append(words, m)
		}
		if least := lightest(words, mask{}, 5); least < 6 {
			t.Errorf("K %d: two words differ in %d bits", k, least)
		}
	}
}

func TestWordsOfEverySizeDifferIn6Bits(t *testing.T) {
	random := rand.New(rand.NewSource(12))
	for _, k := range segment.Sizes() {
		inputs := [][]byte{one(k, 0), one(k, k/2), one(k, k-3), one(k, k-2), one(k, k-1)}
		for range 10 {
			// Ones at a multiple of 7 from each other empty the register of the first code, or of the second one.
			i := random.Intn(k - 14)
			pi, _ := qpp.At(k, i)
			pi7, _ := qpp.At(k, i+7)
			inputs = append(inputs, added(one(k, i), one(k, i+7)), added(one(k, i), one(k, i+14)), added(one(k, pi), one(k, pi7)))
		}
		for _, bits := range inputs {
			if n := ones(encoded(t, bits)); n < 6 {
				t.Errorf("K %d: two words differ in %d bits", k, n)
			}
		}
	}
}

// inverted returns a word with inverted bits at some indices.
func inverted(w []byte, indices ...int) []byte {
	c := slices.Clone(w)
	for _, i := range indices {
		c[i] ^= 1
	}
	return c
}

func TestOneOrTwoInvertedBits(t *testing.T) {
	w := digits(known[2][1])
	for i := range w {
		expectCheck(t, inverted(w, i), api.ErrCheck)
		for j := range i {
			expectCheck(t, inverted(w, i, j), api.ErrCheck)
		}
	}
	for _, k := range segment.Sizes() {
		w := encoded(t, stripes(k))
		for _, i := range places(k) {
			expectCheck(t, inverted(w, i), api.ErrCheck)
		}
	}
}

func TestOneToFiveInvertedBits(t *testing.T) {
	random := rand.New(rand.NewSource(13))
	for _, k := range []int{40, 528, 6144} {
		w := encoded(t, randomBits(random, k))
		for range 200 {
			for n := 1; n <= 5; n++ {
				expectCheck(t, inverted(w, random.Perm(len(w))[:n]...), api.ErrCheck)
				// All in the tails, which are the ends of the streams.
				var ends []int
				for _, i := range random.Perm(12)[:n] {
					ends = append(ends, i/4*(k+4)+k+i%4)
				}
				expectCheck(t, inverted(w, ends...), api.ErrCheck)
			}
		}
	}
}

// P1 and the document's section Rules

// overwrite changes every element of a slice, and those for which it has room.
func overwrite[E any](l []E, v E) {
	for i := range l[:cap(l)] {
		l[:cap(l)][i] = v
	}
}

// calls are the functions that take bits.
var calls = map[string]func([]byte) []byte{
	"Encode": func(l []byte) []byte { w, _ := turbo.Encode(l); return w },
	"Bits":   func(l []byte) []byte { b, _ := turbo.Bits(l); return b },
	"Check":  func(l []byte) []byte { return []byte{byte(turbo.Check(l))} },
}

// TestArgumentsAreNotModified looks at the elements around the arguments, too.
func TestArgumentsAreNotModified(t *testing.T) {
	random := rand.New(rand.NewSource(14))
	for name, call := range calls {
		for _, n := range []int{0, 39, 40, 41, 132, 133, 528, 6144, 18444, 18445} {
			whole := randomBits(random, n+103)
			for _, element := range []byte{1, 2} {
				overwrite(whole[3+n/2:4+n/2:4+n/2], element)
				kept := slices.Clone(whole)
				call(whole[3 : 3+n])
				if !slices.Equal(whole, kept) {
					t.Errorf("%s of %d elements changes them", name, n)
				}
			}
		}
	}
}

func TestResultsShareNoMemory(t *testing.T) {
	random := rand.New(rand.NewSource(15))
	for name, call := range calls {
		for _, k := range some {
			w := append(encoded(t, randomBits(random, k)), 1, 0, 1)
			argument := w[:3*(k+4)]
			if name == "Encode" {
				argument = w[:k]
			}
			kept := slices.Clone(w)
			first, second := call(argument), call(argument)
			want := slices.Clone(second)
			overwrite(first, 77)
			if !slices.Equal(w, kept) {
				t.Errorf("%s of %d bits shares memory with its argument", name, k)
			}
			if !slices.Equal(second, want) || !slices.Equal(call(argument), want) {
				t.Errorf("%s of %d bits shares memory with another result", name, k)
			}
			overwrite(argument, 77)
			if !slices.Equal(second, want) {
				t.Errorf("%s of %d bits keeps its argument", name, k)
			}
		}
	}
}

// TestLayoutsShareNoMemory overwrites each list, and what it has room for, and looks at the others.
func TestLayoutsShareNoMemory(t *testing.T) {
	for _, k := range some {
		for code := 1; code <= 2; code++ {
			wantX, wantZ := layout(k, code)
			kept := turbo.Steps(k, code)
			x, z, _ := turbo.Layout(k, code)
			overwrite(x, -1)
			if !slices.Equal(z, wantZ) {
				t.Errorf("Layout(%d, %d): the lists share memory", k, code)
			}
			x, z, _ = turbo.Layout(k, code)
			overwrite(z, -1)
			if !slices.Equal(x, wantX) {
				t.Errorf("Layout(%d, %d): the lists share memory", k, code)
			}
			overwrite(x, -1)
			expectLayout(t, k, code, wantX, wantZ, api.OK)
			expectSteps(t, k, code, kept, zip(wantX, wantZ))
			expectEncode(t, stripes(k), word(stripes(k)), api.OK)
		}
	}
}

// TestCapacityDoesNotCount has bits, and others, behind the end of the slice.
func TestCapacityDoesNotCount(t *testing.T) {
	w := append(digits(known[2][1]), 2, 255)
	expectEncode(t, w[:40], w[:132], api.OK)
	expectBits(t, w[:132], w[:40], api.OK)
	expectCheck(t, w[:132], api.OK)
	expectEncode(t, w[:39], nil, api.ErrArg)
	expectNoWord(t, w[:131])
	expectNoWord(t, w[:0])
}

// TestCallsDoNotDependOnEarlierOnes calls again after calls with other sizes, after errors, and within a loop.
func TestCallsDoNotDependOnEarlierOnes(t *testing.T) {
	x, z := layout(48, 2)
	kept := turbo.Steps(48, 2)
	for _, k := range append(segment.Sizes(), 0, 1, 39, 41, 520, 6145, 7000) {
		for range kept {
			turbo.Size(k)
			turbo.Layout(k, 3)
		}
		for code := range 4 {
			turbo.Layout(k, code)
			for range turbo.Steps(k, code) {
				break
			}
		}
		for _, call := range calls {
			call(stripes(k))
			call(append(stripes(k), 2))
		}
		for _, x := range known[2:] {
			bits, w := digits(x[0]), digits(x[1])
			expectEncode(t, bits, w, api.OK)
			expectBits(t, w, bits, api.OK)
			expectCheck(t, w, api.OK)
		}
		expectSize(t, 40, 132)
		expectLayout(t, 48, 2, x, z, api.OK)
		expectSteps(t, 48, 2, kept, zip(x, z))
	}
}
