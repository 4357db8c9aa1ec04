package gold_test

import (
	"bytes"
	"iter"
	"math"
	"math/rand"
	"slices"
	"testing"

	"userplane/api"
	"userplane/gold"
)

const (
	lastInit  = uint32(1<<31 - 1)
	lastRNTI  = 65535
	lastCell  = 503
	lastFrame = api.Subframes - 1
)

// noInits are values that do not fit 31 bits, some of them equal to a valid one if they were cut.
var noInits = []uint32{1 << 31, 1<<31 + 1, 1<<31 + 17925, 1<<32 - 2, math.MaxUint32}

// noNumbers are outside every range of this layer.
var noNumbers = []int{-1, -2, -503, math.MinInt32, math.MinInt, math.MaxInt32, math.MaxInt}

// inits are valid initial values: every single bit, the edges, and some others.
func inits() []uint32 {
	l := []uint32{0, 3, 17925, 0x12345678, 0x2aaaaaaa, 0x55555555, lastInit - 1, lastInit}
	for i := range 31 {
		l = append(l, 1<<i)
	}
	random := rand.New(rand.NewSource(4))
	for range 20 {
		l = append(l, random.Uint32()>>1)
	}
	return l
}

// digits returns the slice whose elements are the decimal digits of s.
func digits(s string) []byte {
	b := []byte{}
	for _, r := range s {
		b = append(b, byte(r-'0'))
	}
	return b
}

// defined returns the first n bits of the scrambling sequence by the chapter's definitions, with every bit of x1 and x2 written out.
func defined(init uint32, n int) []byte {
	x1 := make([]byte, 1600+n+31)
	x2 := make([]byte, 1600+n+31)
	x1[0] = 1
	for i := range 31 {
		if init&(1<<i) != 0 {
			x2[i] = 1
		}
	}
	for i := range 1600 + n {
		x1[i+31] = (x1[i+3] + x1[i]) % 2
		x2[i+31] = (x2[i+3] + x2[i+2] + x2[i+1] + x2[i]) % 2
	}
	c := make([]byte, n)
	for i := range c {
		c[i] = (x1[i+1600] + x2[i+1600]) % 2
	}
	return c
}

func randomBits(random *rand.Rand, n int) []byte {
	b := make([]byte, n)
	for i := range b {
		b[i] = byte(random.Intn(2))
	}
	return b
}

func randomSoft(random *rand.Rand, n int) []int {
	l := make([]int, n)
	for i := range l {
		l[i] = random.Intn(2*api.MaxSoft+1) - api.MaxSoft
	}
	return l
}

// fill returns n elements of value v.
func fill[E any](v E, n int) []E { return slices.Repeat([]E{v}, n) }

// added returns the sum modulo 2 of a and the beginning of b.
func added(a, b []byte) []byte {
	c := make([]byte, len(a))
	for i := range c {
		c[i] = (a[i] + b[i]) % 2
	}
	return c
}

// negated returns soft, negated where bits is 1.
func negated(soft []int, bits []byte) []int {
	l := make([]int, len(soft))
	for i := range l {
		l[i] = soft[i] * (1 - 2*int(bits[i]))
	}
	return l
}

// take returns the first n bits of an iterator, which it leaves then.
func take(bits iter.Seq[byte], n int) []byte {
	l := []byte{}
	if n == 0 {
		return l
	}
	for bit := range bits {
		l = append(l, bit)
		if len(l) == n {
			break
		}
	}
	return l
}

func sequence(t *testing.T, init uint32, n int) []byte {
	t.Helper()
	s, e := gold.Sequence(init, n)
	if e != api.OK || len(s) != n {
		t.Fatalf("Sequence(%d, %d): %d bits, error %v", init, n, len(s), e)
	}
	return s
}

func scramble(t *testing.T, init uint32, bits []byte) []byte {
	t.Helper()
	s, e := gold.Scramble(init, bits)
	if e != api.OK || len(s) != len(bits) {
		t.Fatalf("Scramble(%d) of %d bits: %d bits, error %v", init, len(bits), len(s), e)
	}
	return s
}

func scrambleSoft(t *testing.T, init uint32, soft []int) []int {
	t.Helper()
	s, e := gold.ScrambleSoft(init, soft)
	if e != api.OK || len(s) != len(soft) {
		t.Fatalf("ScrambleSoft(%d) of %d values: %d values, error %v", init, len(soft), len(s), e)
	}
	return s
}

// expectInit checks the result of Init, which is 0 if an error is expected.
func expectInit(t *testing.T, rnti, subframe, cell int, want uint32, wantError api.Errno) {
	t.Helper()
	if got, e := gold.Init(rnti, subframe, cell); got != want || e != wantError {
		t.Errorf("Init(%d, %d, %d) = %d, %v; want %d, %v", rnti, subframe, cell, got, e, want, wantError)
	}
}

// expectError checks an error, which has no result beside it.
func expectError[E any](t *testing.T, name string, init uint32, got []E, e, want api.Errno) {
	t.Helper()
	if e != want || len(got) != 0 {
		t.Errorf("%s with %d: %d elements, error %v; want error %v", name, init, len(got), e, want)
	}
}

func expectSequenceError(t *testing.T, init uint32, n int) {
	t.Helper()
	got, e := gold.Sequence(init, n)
	expectError(t, "Sequence", init, got, e, api.ErrArg)
}

func expectScrambleError(t *testing.T, init uint32, bits []byte, want api.Errno) {
	t.Helper()
	got, e := gold.Scramble(init, bits)
	expectError(t, "Scramble", init, got, e, want)
}

func expectSoftError(t *testing.T, init uint32, soft []int, want api.Errno) {
	t.Helper()
	got, e := gold.ScrambleSoft(init, soft)
	expectError(t, "ScrambleSoft", init, got, e, want)
}

func TestExamples(t *testing.T) {
	expectInit(t, 1, 13, 5, 17925, api.OK)
	if s, e := gold.Sequence(0, 0); e != api.OK || len(s) != 0 {
		t.Errorf("Sequence(0, 0) = %v, %v", s, e)
	}
	expectSequenceError(t, 0, -1)
	if a, b := sequence(t, 1, 31), sequence(t, 0, 31); bytes.Equal(a, b) {
		t.Errorf("Sequence(1, 31) and Sequence(0, 31) are both %v", a)
	}
}

func TestMaxBits(t *testing.T) {
	if gold.MaxBits != 131072 {
		t.Error(gold.MaxBits)
	}
}

// P4.1

func TestInit(t *testing.T) {
	for _, rnti := range []int{0, 1, 2, 255, 256, 32767, 32768, lastRNTI - 1, lastRNTI} {
		for _, subframe := range []int{0, 1, 8, 9, 10, 11, 19, 20, 1023, 10239, 10240, lastFrame - 4, lastFrame - 3, lastFrame - 1, lastFrame} {
			for cell := range lastCell + 1 {
				want := rnti*16384 + subframe%10*512 + cell
				expectInit(t, rnti, subframe, cell, uint32(want), api.OK)
			}
		}
	}
}

func TestInitAtTheEdges(t *testing.T) {
	expectInit(t, 0, 0, 0, 0, api.OK)
	expectInit(t, lastRNTI, 0, 0, 1073725440, api.OK)
	expectInit(t, 0, 9, 0, 4608, api.OK)
	expectInit(t, 0, 10, 0, 0, api.OK)
	expectInit(t, 0, lastFrame, 0, 3*512, api.OK) // 2^30 - 1 ends with the digit 3
	expectInit(t, 0, 0, lastCell, lastCell, api.OK)
	expectInit(t, lastRNTI, 9, lastCell, 1073725440+4608+503, api.OK)
}

func TestInitOutOfRange(t *testing.T) {
	for _, rnti := range append([]int{lastRNTI + 1, lastRNTI + 2, 1 << 17}, noNumbers...) {
		expectInit(t, rnti, 0, 0, 0, api.ErrArg)
		expectInit(t, rnti, 13, 5, 0, api.ErrArg)
	}
	for _, subframe := range append([]int{lastFrame + 1, lastFrame + 2}, noNumbers...) {
		expectInit(t, 0, subframe, 0, 0, api.ErrArg)
		expectInit(t, 1, subframe, 5, 0, api.ErrArg)
	}
	for _, cell := range append([]int{lastCell + 1, 511, 512, 513, 1 << 14}, noNumbers...) {
		expectInit(t, 0, 0, cell, 0, api.ErrArg)
		expectInit(t, 1, 13, cell, 0, api.ErrArg)
	}
	for _, v := range noNumbers {
		expectInit(t, v, v, v, 0, api.ErrArg)
	}
}

func TestEveryInitialValueOfATransmissionIsValid(t *testing.T) {
	for rnti := range lastRNTI + 1 {
		init, e := gold.Init(rnti, 9, lastCell)
		if e != api.OK || init > lastInit {
			t.Fatalf("Init(%d, 9, %d) = %d, %v", rnti, lastCell, init, e)
		}
	}
	last, _ := gold.Init(lastRNTI, 9, lastCell)
	if got := sequence(t, last, 100); !bytes.Equal(got, defined(last, 100)) {
		t.Errorf("Sequence(%d, 100) = %v", last, got)
	}
}

// P4.2

// TestSequenceOfKnownValues has the bits written out, from a computation of its own.
func TestSequenceOfKnownValues(t *testing.T) {
	for init, want := range map[uint32]string{
		0:          "0000001000011010000100100111101000100101",
		1:          "0000001010000011000000110111010000101011",
		17925:      "1000001000101110100000001010000100100111",
		0x12345678: "1101001011100001110111100111100101001111",
		lastInit:   "1111110100001011111100111000111000101110",
	} {
		if got := sequence(t, init, 40); !bytes.Equal(got, digits(want)) {
			t.Errorf("Sequence(%d, 40) = %v; want %s", init, got, want)
		}
	}
}

func TestSequence(t *testing.T) {
	for _, init := range inits() {
		want := defined(init, 2000)
		for _, n := range []int{0, 1, 2, 30, 31, 32, 33, 61, 62, 63, 64, 1599, 1600, 1601, 1631, 2000} {
			if got := sequence(t, init, n); !bytes.Equal(got, want[:n]) {
				t.Fatalf("Sequence(%d, %d) = %v; want %v", init, n, got, want[:n])
			}
		}
	}
}

func TestTheLongestSequence(t *testing.T) {
	for _, init := range []uint32{0, 1, 17925, lastInit} {
		want := defined(init, gold.MaxBits)
		for _, n := range []int{gold.MaxBits - 1, gold.MaxBits} {
			if !bytes.Equal(sequence(t, init, n), want[:n]) {
				t.Errorf("Sequence(%d, %d) is not as defined", init, n)
			}
		}
	}
}

func TestSequenceErrors(t *testing.T) {
	numbers := []int{0, 1, 31, gold.MaxBits - 1, gold.MaxBits}
	for _, init := range noInits {
		for _, n := range numbers {
			expectSequenceError(t, init, n)
		}
	}
	for _, n := range append([]int{gold.MaxBits + 1, gold.MaxBits + 2}, noNumbers...) {
		for _, init := range append(slices.Clone(noInits), 0, 1, 17925, lastInit) {
			expectSequenceError(t, init, n)
		}
	}
}

func TestBits(t *testing.T) {
	for _, init := range inits() {
		if got := take(gold.Bits(init), 2000); !bytes.Equal(got, defined(init, 2000)) {
			t.Fatalf("Bits(%d) = %v", init, got)
		}
	}
}

// TestBitsDoNotEnd passes the number of bits that Sequence is limited to.
func TestBitsDoNotEnd(t *testing.T) {
	for _, init := range []uint32{0, 17925, lastInit} {
		n := 4 * gold.MaxBits
		if !bytes.Equal(take(gold.Bits(init), n), defined(init, n)) {
			t.Errorf("the first %d of Bits(%d) are not as defined", n, init)
		}
	}
}

func TestBitsLeftEarlyStartAgain(t *testing.T) {
	for _, init := range []uint32{0, 1, 17925, lastInit} {
		bits := gold.Bits(init)
		want := defined(init, 1700)
		for _, n := range []int{1, 2, 3, 30, 31, 32, 100, 1599, 1600, 1601, 1700, 1, 50} {
			if got := take(bits, n); !bytes.Equal(got, want[:n]) {
				t.Errorf("%d of Bits(%d) = %v; want %v", n, init, got, want[:n])
			}
		}
	}
}

// TestBitsAreNotYieldedAfterLeaving calls the iterator as a loop does, and refuses further bits.
func TestBitsAreNotYieldedAfterLeaving(t *testing.T) {
	for last := range 70 {
		var got []byte
		gold.Bits(17925)(func(bit byte) bool {
			if len(got) > last {
				t.Fatalf("left after %d bits, but there is another one", last+1)
			}
			got = append(got, bit)
			return len(got) <= last
		})
		if want := defined(17925, last+1); !bytes.Equal(got, want) {
			t.Errorf("left after %d bits: %v; want %v", last+1, got, want)
		}
	}
}

func TestBitsWithinTheSameBits(t *testing.T) {
	bits := gold.Bits(17925)
	want := defined(17925, 40)
	var outer []byte
	for bit := range bits {
		outer = append(outer, bit)
		if inner := take(bits, 40); !bytes.Equal(inner, want) {
			t.Fatalf("the inner loop has %v; want %v", inner, want)
		}
		if len(outer) == 40 {
			break
		}
	}
	if !bytes.Equal(outer, want) {
		t.Errorf("the outer loop has %v; want %v", outer, want)
	}
}

func TestBitsOfNoInitialValue(t *testing.T) {
	for _, init := range noInits {
		bits := gold.Bits(init)
		for range 2 {
			if got := take(bits, 1); len(got) != 0 {
				t.Errorf("Bits(%d) yields %v", init, got)
			}
		}
	}
}

// P4.3

func TestScramble(t *testing.T) {
	random := rand.New(rand.NewSource(5))
	for _, init := range inits() {
		want := defined(init, 2000)
		for _, n := range []int{0, 1, 2, 7, 8, 31, 32, 100, 2000} {
			for _, b := range [][]byte{make([]byte, n), fill(byte(1), n), randomBits(random, n)} {
				if got := scramble(t, init, b); !bytes.Equal(got, added(b, want)) {
					t.Fatalf("Scramble(%d, %v) = %v; want %v", init, b, got, added(b, want))
				}
			}
		}
	}
}

func TestScrambleSoft(t *testing.T) {
	random := rand.New(rand.NewSource(6))
	for _, init := range inits() {
		want := defined(init, 2000)
		for _, n := range []int{0, 1, 2, 7, 8, 31, 32, 100, 2000} {
			for _, soft := range [][]int{make([]int, n), fill(1, n), fill(-1, n), fill(api.MaxSoft, n), fill(-api.MaxSoft, n), randomSoft(random, n)} {
				if got := scrambleSoft(t, init, soft); !slices.Equal(got, negated(soft, want)) {
					t.Fatalf("ScrambleSoft(%d, %v) = %v; want %v", init, soft, got, negated(soft, want))
				}
			}
		}
	}
}

func TestScrambleSoftOfEveryValue(t *testing.T) {
	var soft []int
	for v := -api.MaxSoft; v <= api.MaxSoft; v++ {
		soft = append(soft, v, v, v)
	}
	for _, init := range []uint32{0, 1, 17925, lastInit} {
		if got, want := scrambleSoft(t, init, soft), negated(soft, defined(init, len(soft))); !slices.Equal(got, want) {
			t.Errorf("ScrambleSoft(%d) = %v; want %v", init, got, want)
		}
	}
}

func TestTheLongestSlices(t *testing.T) {
	random := rand.New(rand.NewSource(7))
	for _, init := range []uint32{0, lastInit} {
		want := defined(init, gold.MaxBits)
		bits, soft := randomBits(random, gold.MaxBits), randomSoft(random, gold.MaxBits)
		if !bytes.Equal(scramble(t, init, bits), added(bits, want)) {
			t.Errorf("Scramble(%d) of %d bits is not as defined", init, len(bits))
		}
		if !slices.Equal(scrambleSoft(t, init, soft), negated(soft, want)) {
			t.Errorf("ScrambleSoft(%d) of %d values is not as defined", init, len(soft))
		}
	}
}

// The errors of P4.3, in their order

func TestNoInitialValue(t *testing.T) {
	for _, init := range noInits {
		for _, n := range []int{0, 1, 40, gold.MaxBits} {
			expectScrambleError(t, init, make([]byte, n), api.ErrArg)
			expectSoftError(t, init, make([]int, n), api.ErrArg)
			expectScrambleError(t, init, fill(byte(2), n), api.ErrArg)          // before ErrBit
			expectSoftError(t, init, fill(api.MaxSoft+1, n), api.ErrArg)        // before ErrRange
			expectScrambleError(t, init, fill(byte(2), 1<<17+1), api.ErrArg)    // before ErrLong
			expectSoftError(t, init, fill(-api.MaxSoft-1, 1<<17+1), api.ErrArg) // before ErrLong
		}
	}
}

func TestMoreElementsThanTheLimit(t *testing.T) {
	for _, init := range []uint32{0, 17925, lastInit} {
		for _, n := range []int{gold.MaxBits + 1, gold.MaxBits + 2, 2 * gold.MaxBits} {
			expectScrambleError(t, init, make([]byte, n), api.ErrLong)
			expectSoftError(t, init, make([]int, n), api.ErrLong)
			expectScrambleError(t, init, fill(byte(2), n), api.ErrLong)   // before ErrBit
			expectSoftError(t, init, fill(api.MaxSoft+1, n), api.ErrLong) // before ErrRange
		}
	}
}

// places are lengths and positions where a check may miss an element.
func places() [][2]int {
	l := [][2]int{{1, 0}, {gold.MaxBits, 0}, {gold.MaxBits, gold.MaxBits / 2}, {gold.MaxBits, gold.MaxBits - 1}}
	for at := range 70 { // where the sequence is 0, and where it is 1
		l = append(l, [2]int{70, at})
	}
	return l
}

func TestElementsThatAreNoBits(t *testing.T) {
	for _, p := range places() {
		b := make([]byte, p[0])
		b[p[1]] = 2
		expectScrambleError(t, 17925, b, api.ErrBit)
	}
	for x := 2; x < 256; x++ {
		expectScrambleError(t, 0, []byte{byte(x)}, api.ErrBit)
		expectScrambleError(t, lastInit, []byte{1, byte(x), 0}, api.ErrBit)
	}
}

func TestElementsThatAreNoSoftValues(t *testing.T) {
	for _, p := range places() {
		for _, v := range []int{api.MaxSoft + 1, -api.MaxSoft - 1} {
			soft := make([]int, p[0])
			soft[p[1]] = v
			expectSoftError(t, 17925, soft, api.ErrRange)
		}
	}
	for _, v := range []int{128, -128, 129, -129, 255, 256, -256, math.MinInt32, math.MinInt, math.MinInt + 1, math.MaxInt32, math.MaxInt} {
		expectSoftError(t, 0, []int{v}, api.ErrRange)
		expectSoftError(t, lastInit, []int{127, v, -127}, api.ErrRange)
	}
}

// P4.4

func TestScrambledTwice(t *testing.T) {
	random := rand.New(rand.NewSource(8))
	for _, init := range inits() {
		for _, n := range []int{0, 1, 31, 100, 1000} {
			bits, soft := randomBits(random, n), randomSoft(random, n)
			if got := scramble(t, init, scramble(t, init, bits)); !bytes.Equal(got, bits) {
				t.Fatalf("Scramble twice with %d of %v = %v", init, bits, got)
			}
			if got := scrambleSoft(t, init, scrambleSoft(t, init, soft)); !slices.Equal(got, soft) {
				t.Fatalf("ScrambleSoft twice with %d of %v = %v", init, soft, got)
			}
		}
	}
}

// TestSoftValuesOfScrambledBits has soft values whose signs are bits: both kinds of elements are scrambled alike.
func TestSoftValuesOfScrambledBits(t *testing.T) {
	random := rand.New(rand.NewSource(9))
	for _, init := range inits() {
		bits := randomBits(random, 300)
		got := scrambleSoft(t, init, negated(fill(64, 300), bits))
		if want := negated(fill(64, 300), scramble(t, init, bits)); !slices.Equal(got, want) {
			t.Fatalf("with %d: %v; want %v", init, got, want)
		}
	}
}

func TestDistinctInitialValuesGiveDistinctSequences(t *testing.T) {
	random := rand.New(rand.NewSource(10))
	values := inits()
	for range 2000 {
		values = append(values, random.Uint32()>>1, uint32(random.Intn(1<<14)))
	}
	seen := map[string]uint32{}
	for _, init := range values {
		first := string(sequence(t, init, 31))
		if other, ok := seen[first]; ok && other != init {
			t.Fatalf("the sequences of %d and %d both start with %v", other, init, []byte(first))
		}
		seen[first] = init
	}
}

// TestEverySequenceDiffersWithin31Bits shows it for all initial values at once: the first 31 bits are linear in the initial value, but for those of 0, and no sum of the parts of some of its bits is 0.
func TestEverySequenceDiffersWithin31Bits(t *testing.T) {
	zero := sequence(t, 0, 31)
	var lead [31]uint32 // the part with the highest bit i, after elimination
	for i := range 31 {
		part := uint32(0)
		for _, bit := range added(sequence(t, 1<<i, 31), zero) {
			part = part<<1 | uint32(bit)
		}
		for j := 30; j >= 0 && part != 0; j-- {
			if part>>j == 1 && lead[j] == 0 {
				lead[j] = part
				break
			}
			if part>>j == 1 {
				part ^= lead[j]
			}
		}
		if part == 0 {
			t.Fatalf("bit %d of the initial value is not visible in the first 31 bits", i)
		}
	}
}

func TestTheSumOfTwoSequences(t *testing.T) {
	zero := sequence(t, 0, 500)
	values := inits()
	for _, a := range values {
		for _, b := range values {
			sum := added(sequence(t, a, 500), sequence(t, b, 500))
			if want := added(sequence(t, a^b, 500), zero); !bytes.Equal(sum, want) {
				t.Fatalf("the sum of the sequences of %d and %d is %v; want %v", a, b, sum, want)
			}
		}
	}
}

func TestDistinctUsersHaveDistinctInitialValues(t *testing.T) {
	for _, c := range [][2]int{{0, 0}, {13, 5}, {lastFrame, lastCell}, {9, lastCell}} {
		seen := map[uint32]bool{}
		for rnti := range lastRNTI + 1 {
			init, e := gold.Init(rnti, c[0], c[1])
			if e != api.OK || seen[init] {
				t.Fatalf("Init(%d, %d, %d) = %d, %v again", rnti, c[0], c[1], init, e)
			}
			seen[init] = true
		}
	}
}

// P1 and the document's section Rules

// expectOwnMemory overwrites the argument and the results of a call, and expects that nothing else changes.
func expectOwnMemory[E comparable](t *testing.T, name string, argument []E, junk E, call func([]E) ([]E, api.Errno)) {
	t.Helper()
	want := slices.Clone(argument)
	first, e := call(argument)
	second, _ := call(argument)
	if e != api.OK || !slices.Equal(first, second) {
		t.Errorf("%s: %v, %v, and again %v", name, first, e, second)
	}
	kept := slices.Clone(second)
	for i := range first[:cap(first)] {
		first[:cap(first)][i] = junk
	}
	if !slices.Equal(argument, want) || !slices.Equal(second, kept) {
		t.Errorf("%s: the result shares memory", name)
	}
	for i := range argument {
		argument[i] = junk
	}
	if !slices.Equal(second, kept) {
		t.Errorf("%s: the result changes with the argument", name)
	}
	if third, e := call(want); e != api.OK || !slices.Equal(third, kept) {
		t.Errorf("%s: called again: %v, %v; want %v", name, third, e, kept)
	}
}

func TestArgumentsAndResultsShareNoMemory(t *testing.T) {
	random := rand.New(rand.NewSource(11))
	for _, init := range []uint32{0, 17925, lastInit} {
		for _, n := range []int{1, 6, 100} { // the first bits are 0 for 0: nothing is flipped
			expectOwnMemory(t, "Scramble", randomBits(random, n), 77, func(b []byte) ([]byte, api.Errno) { return gold.Scramble(init, b) })
			expectOwnMemory(t, "ScrambleSoft", randomSoft(random, n), 777, func(l []int) ([]int, api.Errno) { return gold.ScrambleSoft(init, l) })
			expectOwnMemory(t, "Sequence", []byte{}, 77, func([]byte) ([]byte, api.Errno) { return gold.Sequence(init, n) })
		}
	}
}

// expectUnmodified calls with an argument that has room around its elements, which must stay as it is, too.
func expectUnmodified[E comparable](t *testing.T, name string, inner []E, junk E, call func([]E)) {
	t.Helper()
	whole := slices.Concat(fill(junk, 3), inner, fill(junk, 64))
	want := slices.Clone(whole)
	call(whole[3 : 3+len(inner)])
	if !slices.Equal(whole, want) {
		t.Errorf("%s: modified: %v; want %v", name, whole, want)
	}
}

func TestArgumentsAreNotModified(t *testing.T) {
	random := rand.New(rand.NewSource(12))
	for _, init := range []uint32{0, 17925, lastInit, 1 << 31} {
		for _, b := range [][]byte{nil, {1, 1, 2}, randomBits(random, 100)} {
			expectUnmodified(t, "Scramble", b, 77, func(b []byte) { gold.Scramble(init, b) })
		}
		for _, soft := range [][]int{nil, {1, -1, 128}, randomSoft(random, 100)} {
			expectUnmodified(t, "ScrambleSoft", soft, 777, func(l []int) { gold.ScrambleSoft(init, l) })
		}
	}
}

func TestNoElements(t *testing.T) {
	for _, init := range []uint32{0, 17925, lastInit} {
		for _, b := range [][]byte{nil, {}} {
			if got := scramble(t, init, b); len(got) != 0 {
				t.Errorf("Scramble(%d, %v) = %v", init, b, got)
			}
		}
		for _, soft := range [][]int{nil, {}} {
			if got := scrambleSoft(t, init, soft); len(got) != 0 {
				t.Errorf("ScrambleSoft(%d, %v) = %v", init, soft, got)
			}
		}
	}
	for _, init := range noInits {
		expectScrambleError(t, init, nil, api.ErrArg)
		expectScrambleError(t, init, []byte{}, api.ErrArg)
		expectSoftError(t, init, nil, api.ErrArg)
		expectSoftError(t, init, []int{}, api.ErrArg)
	}
}

// TestCallsDoNotDependOnEarlierOnes calls again after other calls and after errors.
func TestCallsDoNotDependOnEarlierOnes(t *testing.T) {
	want := sequence(t, 17925, 100)
	for _, init := range append(inits(), noInits...) {
		gold.Sequence(init, 50)
		gold.Scramble(init, []byte{1, 2})
		gold.ScrambleSoft(init, []int{1, 2})
		take(gold.Bits(init), 7)
		if got := sequence(t, 17925, 100); !bytes.Equal(got, want) {
			t.Fatalf("after %d: %v; want %v", init, got, want)
		}
	}
}
