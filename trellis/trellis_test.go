package trellis_test

import (
	"iter"
	"math"
	"math/rand"
	"slices"
	"testing"

	"userplane/api"
	"userplane/trellis"
)

// table is the code by hand: for each state and input bit the next state and the parity bit.
var table = [8][2][2]int{
	{{0, 0}, {4, 1}},
	{{4, 0}, {0, 1}},
	{{5, 1}, {1, 0}},
	{{1, 1}, {5, 0}},
	{{2, 1}, {6, 0}},
	{{6, 1}, {2, 0}},
	{{7, 0}, {3, 1}},
	{{3, 0}, {7, 1}},
}

// into is the table read backwards, by hand too: the branches that lead to each state.
var into = [8][2]api.Branch{
	{{From: 0, Bit: 0, Parity: 0, To: 0}, {From: 1, Bit: 1, Parity: 1, To: 0}},
	{{From: 2, Bit: 1, Parity: 0, To: 1}, {From: 3, Bit: 0, Parity: 1, To: 1}},
	{{From: 4, Bit: 0, Parity: 1, To: 2}, {From: 5, Bit: 1, Parity: 0, To: 2}},
	{{From: 6, Bit: 1, Parity: 1, To: 3}, {From: 7, Bit: 0, Parity: 0, To: 3}},
	{{From: 0, Bit: 1, Parity: 1, To: 4}, {From: 1, Bit: 0, Parity: 0, To: 4}},
	{{From: 2, Bit: 0, Parity: 1, To: 5}, {From: 3, Bit: 1, Parity: 0, To: 5}},
	{{From: 4, Bit: 1, Parity: 0, To: 6}, {From: 5, Bit: 0, Parity: 1, To: 6}},
	{{From: 6, Bit: 0, Parity: 0, To: 7}, {From: 7, Bit: 1, Parity: 1, To: 7}},
}

// tails are the tail inputs and the tail parity bits of each state, by hand.
var tails = [8][2][3]byte{
	{{0, 0, 0}, {0, 0, 0}},
	{{1, 0, 0}, {1, 0, 0}},
	{{1, 1, 0}, {0, 1, 0}},
	{{0, 1, 0}, {1, 1, 0}},
	{{0, 1, 1}, {1, 0, 1}},
	{{1, 1, 1}, {0, 0, 1}},
	{{1, 0, 1}, {1, 1, 1}},
	{{0, 0, 1}, {0, 1, 1}},
}

// noStates are integers that are no state, some of them equal to one if they were cut.
var noStates = []int{-1, -2, -7, -8, -9, 8, 9, 10, 15, 16, 64, 255, 256, 1 << 16, 1<<32 + 3, math.MinInt32, math.MaxInt32, math.MinInt, math.MinInt + 1, math.MaxInt - 1, math.MaxInt}

// noBits are integers that are no bit.
var noBits = []int{-1, -2, 2, 3, 4, 7, 8, 255, 256, 257, 1 << 32, 1<<32 + 1, math.MinInt32, math.MaxInt32, math.MinInt, math.MinInt + 1, math.MaxInt - 1, math.MaxInt}

// lengths are numbers of input bits: none, one, and many, to beyond the greatest code block.
var lengths = []int{0, 1, 2, 3, 4, 5, 7, 8, 9, 39, 40, 64, 511, 1000, 6144, 6145, 20000}

// sums returns the polynomials' sums by definition: what enters the register, and the parity bits, for a register that holds 0 0 0 at first.
func sums(bits []byte) (entered, parity []byte) {
	// The first three elements are the bits in the register.
	a := make([]byte, 3, 3+len(bits))
	for _, u := range bits {
		k := len(a)
		a = append(a, (u+a[k-2]+a[k-3])%2)
		parity = append(parity, (a[k]+a[k-1]+a[k-3])%2)
	}
	return a, parity
}

// encoded returns the parity bits and the state that is reached, by definition.
func encoded(bits []byte) (parity []byte, state int) {
	a, parity := sums(bits)
	k := len(a)
	return parity, int(4*a[k-1] + 2*a[k-2] + a[k-3])
}

// word returns the codeword by definition, the tail from the table written out.
func word(bits []byte) []byte {
	parity, state := encoded(bits)
	return slices.Concat(bits, parity, tails[state][0][:], tails[state][1][:])
}

// path returns the states and parity bits after each input bit, by definition.
func path(bits []byte) [][2]int {
	l := [][2]int{}
	for i := range bits {
		parity, state := encoded(bits[:i+1])
		l = append(l, [2]int{state, int(parity[i])})
	}
	return l
}

// pairs returns what an iterator yields.
func pairs(s iter.Seq2[int, int]) [][2]int {
	l := [][2]int{}
	for state, parity := range s {
		l = append(l, [2]int{state, parity})
	}
	return l
}

func randomBits(random *rand.Rand, n int) []byte {
	b := make([]byte, n)
	for i := range b {
		b[i] = byte(random.Intn(2))
	}
	return b
}

// everyInput returns the input bits of length n, all of them.
func everyInput(n int) [][]byte {
	var l [][]byte
	for x := range 1 << n {
		bits := make([]byte, n)
		for i := range bits {
			bits[i] = byte(x >> i & 1)
		}
		l = append(l, bits)
	}
	return l
}

// inputs returns all input bits of up to 8, and some of each of the lengths.
func inputs(random *rand.Rand) [][]byte {
	var l [][]byte
	for n := range 9 {
		l = append(l, everyInput(n)...)
	}
	for _, n := range lengths {
		l = append(l, make([]byte, n), slices.Repeat([]byte{1}, n), randomBits(random, n), randomBits(random, n))
	}
	return l
}

// added returns the exclusive or of two slices of equal length.
func added(a, b []byte) []byte {
	c := make([]byte, len(a))
	for i := range c {
		c[i] = a[i] ^ b[i]
	}
	return c
}

// ones returns the number of ones.
func ones(bits []byte) int {
	n := 0
	for _, bit := range bits {
		n += int(bit)
	}
	return n
}

// places returns the first, the last and the middle places of n elements, and some others.
func places(n int) []int {
	var l []int
	for i := range n {
		if n < 10 || i < 3 || i > n-4 || i == n/2 {
			l = append(l, i)
		}
	}
	return l
}

// with returns a copy of bits that has another element at place i.
func with(bits []byte, i int, element byte) []byte {
	c := slices.Clone(bits)
	c[i] = element
	return c
}

func expectStep(t *testing.T, state, bit, wantNext, wantParity int, wantError api.Errno) {
	t.Helper()
	if next, parity, e := trellis.Step(state, bit); next != wantNext || parity != wantParity || e != wantError {
		t.Errorf("Step(%d, %d) = %d, %d, %v; want %d, %d, %v", state, bit, next, parity, e, wantNext, wantParity, wantError)
	}
}

func expectEncode(t *testing.T, bits, wantParity []byte, wantState int, wantError api.Errno) {
	t.Helper()
	if parity, state, e := trellis.Encode(bits); !slices.Equal(parity, wantParity) || state != wantState || e != wantError {
		t.Errorf("Encode of %d bits: %d parity bits, or not as defined, state %d, error %v; want state %d, error %v", len(bits), len(parity), state, e, wantState, wantError)
	}
}

func expectTail(t *testing.T, state int, wantInputs, wantParity [3]byte, wantError api.Errno) {
	t.Helper()
	if u, z, e := trellis.Tail(state); u != wantInputs || z != wantParity || e != wantError {
		t.Errorf("Tail(%d) = %v, %v, %v; want %v, %v, %v", state, u, z, e, wantInputs, wantParity, wantError)
	}
}

func expectWord(t *testing.T, bits, want []byte, wantError api.Errno) {
	t.Helper()
	if got, e := trellis.Word(bits); !slices.Equal(got, want) || e != wantError {
		t.Errorf("Word of %d bits: %d bits, or not as defined, error %v; want %d bits, error %v", len(bits), len(got), e, len(want), wantError)
	}
}

func expectPrevious(t *testing.T, state int, want [2]api.Branch, wantError api.Errno) {
	t.Helper()
	if got, e := trellis.Previous(state); got != want || e != wantError {
		t.Errorf("Previous(%d) = %v, %v; want %v, %v", state, got, e, want, wantError)
	}
}

func expectWalk(t *testing.T, s iter.Seq2[int, int], want [][2]int) {
	t.Helper()
	if got := pairs(s); !slices.Equal(got, want) {
		t.Errorf("Walk yields %d pairs, or not as defined; want %d", len(got), len(want))
	}
}

// codeword returns the result of Word for valid bits.
func codeword(t *testing.T, bits []byte) []byte {
	t.Helper()
	w, e := trellis.Word(bits)
	if e != api.OK || len(w) != 2*len(bits)+6 {
		t.Fatalf("Word of %d bits: %d bits, error %v", len(bits), len(w), e)
	}
	return w
}

func TestExamples(t *testing.T) {
	expectStep(t, 0, 1, 4, 1, api.OK)
	expectStep(t, 4, 0, 2, 1, api.OK)
	expectStep(t, 8, 0, 0, 0, api.ErrArg)
	expectEncode(t, []byte{1, 0, 0, 0}, []byte{1, 1, 1, 1}, 6, api.OK)
	expectTail(t, 4, [3]byte{0, 1, 1}, [3]byte{1, 0, 1}, api.OK)
	expectWord(t, []byte{1}, []byte{1, 1, 0, 1, 1, 1, 0, 1}, api.OK)
	expectPrevious(t, 2, [2]api.Branch{{From: 4, Bit: 0, Parity: 1, To: 2}, {From: 5, Bit: 1, Parity: 0, To: 2}}, api.OK)
}

// P7.1

func TestStepOfEveryStateAndBit(t *testing.T) {
	for state, row := range table {
		for bit, want := range row {
			expectStep(t, state, bit, want[0], want[1], api.OK)
		}
	}
}

// TestTheTableIsAsDefined compares the tables of this file with the definition, bit by bit.
func TestTheTableIsAsDefined(t *testing.T) {
	for s1 := range 2 {
		for s2 := range 2 {
			for s3 := range 2 {
				state := 4*s1 + 2*s2 + s3
				for u := range 2 {
					a := (u + s2 + s3) % 2
					expectStep(t, state, u, 4*a+2*s1+s2, (a+s1+s3)%2, api.OK)
				}
				u := [3]int{(s2 + s3) % 2, (s1 + s2) % 2, s1}
				z := [3]int{(s1 + s3) % 2, s2, s1}
				for i := range 3 {
					if int(tails[state][0][i]) != u[i] || int(tails[state][1][i]) != z[i] {
						t.Errorf("the tail of %d: %v", state, tails[state])
					}
				}
			}
		}
	}
}

func TestStepOutOfRange(t *testing.T) {
	for _, state := range noStates {
		for _, bit := range append([]int{0, 1}, noBits...) {
			expectStep(t, state, bit, 0, 0, api.ErrArg)
		}
	}
	for state := range 8 {
		for _, bit := range noBits {
			expectStep(t, state, bit, 0, 0, api.ErrArg)
		}
	}
	for state := -300; state <= 300; state++ {
		for bit := -5; bit <= 5; bit++ {
			if state < 0 || state > 7 || bit < 0 || bit > 1 {
				expectStep(t, state, bit, 0, 0, api.ErrArg)
			}
		}
	}
}

func TestEncodeOfKnownValues(t *testing.T) {
	expectEncode(t, nil, nil, 0, api.OK)
	expectEncode(t, []byte{}, nil, 0, api.OK)
	expectEncode(t, []byte{0}, []byte{0}, 0, api.OK)
	expectEncode(t, []byte{1}, []byte{1}, 4, api.OK)
	expectEncode(t, []byte{0, 1}, []byte{0, 1}, 4, api.OK)
	expectEncode(t, []byte{1, 1}, []byte{1, 0}, 6, api.OK)
	expectEncode(t, []byte{1, 1, 1}, []byte{1, 0, 1}, 3, api.OK)
	// The answer to a single 1: after its first element it has a period of 7.
	expectEncode(t, append([]byte{1}, make([]byte, 14)...), []byte{1, 1, 1, 1, 0, 0, 1, 0, 1, 1, 1, 0, 0, 1, 0}, 4, api.OK)
}

func TestEncode(t *testing.T) {
	for _, bits := range inputs(rand.New(rand.NewSource(1))) {
		parity, state := encoded(bits)
		expectEncode(t, bits, parity, state, api.OK)
	}
}

// TestEncodeFollowsStep has the steps one by one.
func TestEncodeFollowsStep(t *testing.T) {
	bits := randomBits(rand.New(rand.NewSource(2)), 1000)
	var want []byte
	state := 0
	for i, bit := range bits {
		next, parity, e := trellis.Step(state, int(bit))
		if e != api.OK {
			t.Fatalf("step %d: error %v", i, e)
		}
		want, state = append(want, byte(parity)), next
		expectEncode(t, bits[:i+1], want, state, api.OK)
	}
}

func TestTailOfEveryState(t *testing.T) {
	for state, want := range tails {
		expectTail(t, state, want[0], want[1], api.OK)
	}
}

func TestTailOutOfRange(t *testing.T) {
	for _, state := range noStates {
		expectTail(t, state, [3]byte{}, [3]byte{}, api.ErrArg)
	}
	for state := -300; state <= 300; state++ {
		if state < 0 || state > 7 {
			expectTail(t, state, [3]byte{}, [3]byte{}, api.ErrArg)
		}
	}
}

// P7.1 and P7.2

// expectErrBit expects that bits with an invalid element in them are not encoded.
func expectErrBit(t *testing.T, bits []byte) {
	t.Helper()
	expectEncode(t, bits, nil, 0, api.ErrBit)
	expectWord(t, bits, nil, api.ErrBit)
}

func TestElementsThatAreNoBits(t *testing.T) {
	random := rand.New(rand.NewSource(3))
	for element := 2; element <= 255; element++ {
		for _, n := range []int{1, 2, 3, 5, 50} {
			bits := randomBits(random, n)
			for i := range n {
				expectErrBit(t, with(bits, i, byte(element)))
			}
		}
	}
	for _, n := range lengths {
		bits := randomBits(random, n)
		for _, i := range places(n) {
			expectErrBit(t, with(bits, i, 2))
			expectErrBit(t, with(bits, i, 255))
		}
		if n > 0 {
			expectErrBit(t, slices.Repeat([]byte{2}, n))
		}
	}
}

// P7.2

func TestWordOfKnownValues(t *testing.T) {
	zeros := make([]byte, 6)
	expectWord(t, nil, zeros, api.OK)
	expectWord(t, []byte{}, zeros, api.OK)
	expectWord(t, []byte{0}, make([]byte, 8), api.OK)
	expectWord(t, []byte{1, 0}, []byte{1, 0, 1, 1, 1, 1, 0, 0, 1, 0}, api.OK)
	expectWord(t, []byte{1, 1}, []byte{1, 1, 1, 0, 1, 0, 1, 1, 1, 1}, api.OK)
	expectWord(t, []byte{1, 0, 0, 0}, []byte{1, 0, 0, 0, 1, 1, 1, 1, 1, 0, 1, 1, 1, 1}, api.OK)
}

func TestWord(t *testing.T) {
	for _, bits := range inputs(rand.New(rand.NewSource(4))) {
		expectWord(t, bits, word(bits), api.OK)
		codeword(t, bits)
	}
}

// P7.3

func TestBranches(t *testing.T) {
	var want []api.Branch
	for state, row := range table {
		for bit, x := range row {
			want = append(want, api.Branch{From: state, Bit: bit, Parity: x[1], To: x[0]})
		}
	}
	if got := trellis.Branches(); len(got) != 16 || !slices.Equal(got, want) {
		t.Errorf("Branches() = %v; want %v", got, want)
	}
}

func TestPreviousOfEveryState(t *testing.T) {
	for state, want := range into {
		expectPrevious(t, state, want, api.OK)
	}
}

// TestPreviousHasEveryBranchOnce looks for the branches of Branches.
func TestPreviousHasEveryBranchOnce(t *testing.T) {
	var all []api.Branch
	for state := range 8 {
		l, e := trellis.Previous(state)
		if e != api.OK || l[0].To != state || l[1].To != state || l[0].From >= l[1].From {
			t.Errorf("Previous(%d) = %v, %v", state, l, e)
		}
		all = append(all, l[:]...)
	}
	for _, b := range trellis.Branches() {
		if i := slices.Index(all, b); i < 0 {
			t.Errorf("branch %v is missing", b)
		} else {
			all = slices.Delete(all, i, i+1)
		}
	}
	if len(all) != 0 {
		t.Errorf("left: %v", all)
	}
}

func TestPreviousOutOfRange(t *testing.T) {
	for _, state := range noStates {
		expectPrevious(t, state, [2]api.Branch{}, api.ErrArg)
	}
	for state := -300; state <= 300; state++ {
		if state < 0 || state > 7 {
			expectPrevious(t, state, [2]api.Branch{}, api.ErrArg)
		}
	}
}

// P7.4

func TestWalk(t *testing.T) {
	expectWalk(t, trellis.Walk([]byte{1, 0, 0, 0}), [][2]int{{4, 1}, {2, 1}, {5, 1}, {6, 1}})
	for _, bits := range inputs(rand.New(rand.NewSource(5))) {
		if len(bits) <= 1000 {
			expectWalk(t, trellis.Walk(bits), path(bits))
		}
	}
}

func TestWalkAgreesWithEncode(t *testing.T) {
	for _, bits := range inputs(rand.New(rand.NewSource(6))) {
		parity, last, _ := trellis.Encode(bits)
		n, state := 0, 0
		for s, z := range trellis.Walk(bits) {
			if n >= len(parity) || z != int(parity[n]) {
				t.Fatalf("pair %d of %d bits: parity %d", n, len(bits), z)
			}
			n, state = n+1, s
		}
		if n != len(bits) || state != last {
			t.Errorf("Walk of %d bits: %d pairs, state %d; want state %d", len(bits), n, state, last)
		}
	}
}

func TestWalkOverNoElements(t *testing.T) {
	for _, bits := range [][]byte{nil, {}} {
		s := trellis.Walk(bits)
		if s == nil {
			t.Fatal("Walk of no elements is nil")
		}
		for range 2 {
			expectWalk(t, s, nil)
		}
	}
}

func TestWalkEndsBeforeAnElementThatIsNoBit(t *testing.T) {
	random := rand.New(rand.NewSource(7))
	for _, n := range []int{1, 2, 3, 4, 9, 40, 200} {
		bits := randomBits(random, n)
		want := path(bits)
		for i := range n {
			for _, element := range []byte{2, 3, 48, 49, 128, 254, 255} {
				s := trellis.Walk(with(bits, i, element))
				expectWalk(t, s, want[:i])
				expectWalk(t, s, want[:i])
				// A second one, behind the first or before it, makes no difference.
				expectWalk(t, trellis.Walk(with(with(bits, i, element), n/2, 2)), want[:min(i, n/2)])
			}
		}
	}
	for element := 2; element <= 255; element++ {
		expectWalk(t, trellis.Walk([]byte{1, byte(element), 1}), [][2]int{{4, 1}})
	}
}

// expectLeft leaves the loop after some pairs, and expects that the iterator starts again from the beginning.
func expectLeft(t *testing.T, s iter.Seq2[int, int], want [][2]int, end int) {
	t.Helper()
	got := [][2]int{}
	s(func(state, parity int) bool {
		got = append(got, [2]int{state, parity})
		return len(got) < end
	})
	if !slices.Equal(got, want[:end]) {
		t.Fatalf("left after %d pairs: %v; want %v", end, got, want[:end])
	}
	for state, parity := range s {
		if want[0] != [2]int{state, parity} {
			t.Fatalf("used again: %d, %d; want %v", state, parity, want[0])
		}
		break
	}
}

func TestWalkLeftEarlyAndUsedAgain(t *testing.T) {
	random := rand.New(rand.NewSource(8))
	for _, n := range []int{1, 2, 3, 40, 200} {
		bits := randomBits(random, n)
		bits[0] = 1
		s, want := trellis.Walk(bits), path(bits)
		for end := 1; end <= n; end++ {
			expectLeft(t, s, want, end)
		}
		expectWalk(t, s, want)
		expectWalk(t, s, want)
	}
}

func TestWalkLeftBeforeAnElementThatIsNoBit(t *testing.T) {
	bits := []byte{1, 1, 0, 1, 0, 2, 1, 1}
	s, want := trellis.Walk(bits), path(bits[:5])
	for end := 1; end <= 5; end++ {
		expectLeft(t, s, want, end)
	}
	expectWalk(t, s, want)
}

func TestWalkWithinItself(t *testing.T) {
	bits := randomBits(rand.New(rand.NewSource(9)), 60)
	s, want := trellis.Walk(bits), path(bits)
	n := 0
	for state, parity := range s {
		expectWalk(t, s, want)
		if want[n] != [2]int{state, parity} {
			t.Fatalf("pair %d: %d, %d; want %v", n, state, parity, want[n])
		}
		n++
	}
	if n != 60 {
		t.Errorf("%d pairs", n)
	}
}

// TestWalkKeepsTheBits changes them after the call, between two uses, and within a loop.
func TestWalkKeepsTheBits(t *testing.T) {
	original := randomBits(rand.New(rand.NewSource(10)), 100)
	want := path(original)
	for _, element := range []byte{0, 1, 2, 255} {
		bits := slices.Clone(original)
		s := trellis.Walk(bits)
		overwrite(bits, element)
		expectWalk(t, s, want)
		expectWalk(t, s, want)

		copy(bits, original)
		s = trellis.Walk(bits)
		expectWalk(t, s, want)
		overwrite(bits, element)
		expectWalk(t, s, want)

		copy(bits, original)
		s = trellis.Walk(bits)
		n := 0
		for state, parity := range s {
			overwrite(bits, element)
			if want[n] != [2]int{state, parity} {
				t.Fatalf("pair %d: %d, %d; want %v", n, state, parity, want[n])
			}
			n++
		}
		if n != 100 {
			t.Errorf("%d pairs", n)
		}
	}
	// An element that becomes a bit after the call does not count either.
	bits := with(original, 50, 2)
	s := trellis.Walk(bits)
	bits[50] = original[50]
	expectWalk(t, s, want[:50])
}

// P7.5

func TestTheCodeIsLinear(t *testing.T) {
	for n := range 7 {
		all := everyInput(n)
		for _, a := range all {
			for _, b := range all {
				expectLinear(t, a, b)
			}
		}
	}
	random := rand.New(rand.NewSource(11))
	for _, n := range lengths {
		for range 5 {
			expectLinear(t, randomBits(random, n), randomBits(random, n))
		}
	}
}

func expectLinear(t *testing.T, a, b []byte) {
	t.Helper()
	want := added(codeword(t, a), codeword(t, b))
	if got := codeword(t, added(a, b)); !slices.Equal(got, want) {
		t.Errorf("the codeword of a sum of %d bits is not the sum of the codewords", len(a))
	}
}

func TestTheTailLeadsToState0(t *testing.T) {
	for first := range 8 {
		u, z, e := trellis.Tail(first)
		if e != api.OK {
			t.Fatalf("Tail(%d): error %v", first, e)
		}
		state := first
		for i := range 3 {
			next, parity, e := trellis.Step(state, int(u[i]))
			if e != api.OK || parity != int(z[i]) || next > 3 { // above 3, the bit that enters is 1
				t.Errorf("Tail(%d), step %d: parity %d, state %d, error %v", first, i, parity, next, e)
			}
			state = next
		}
		if state != 0 {
			t.Errorf("Tail(%d) leads to %d", first, state)
		}
	}
}

// TestTheTailOfAWordLeadsToState0 encodes the input bits and the tail inputs as a whole.
func TestTheTailOfAWordLeadsToState0(t *testing.T) {
	for _, bits := range inputs(rand.New(rand.NewSource(12))) {
		n := len(bits)
		w := codeword(t, bits)
		expectEncode(t, slices.Concat(w[:n], w[2*n:2*n+3]), slices.Concat(w[n:2*n], w[2*n+3:]), 0, api.OK)
	}
}

func TestInputsLeadToDifferentStates(t *testing.T) {
	for state := range 8 {
		zero, _, _ := trellis.Step(state, 0)
		one, _, _ := trellis.Step(state, 1)
		if zero == one {
			t.Errorf("both inputs lead from %d to %d", state, one)
		}
	}
}

// TestCodewordsDifferIn6Bits compares all pairs of short inputs, and the lightest differences of long ones.
func TestCodewordsDifferIn6Bits(t *testing.T) {
	least := math.MaxInt
	for n := range 8 {
		var words [][]byte
		for _, bits := range everyInput(n) {
			w := codeword(t, bits)
			for _, other := range words {
				least = min(least, ones(added(w, other)))
			}
			words = append(words, w)
		}
	}
	if least != 6 {
		t.Errorf("two codewords differ in %d bits; want 6", least)
	}
	for _, bits := range everyInput(14)[1:] {
		expectDistance(t, make([]byte, 14), bits)
	}
}

func TestLongCodewordsDifferIn6Bits(t *testing.T) {
	random := rand.New(rand.NewSource(13))
	for _, n := range []int{40, 120, 512} {
		bits := randomBits(random, n)
		for range 300 {
			other := slices.Clone(bits)
			for range 1 + random.Intn(4) {
				other[random.Intn(n)] ^= 1
			}
			if !slices.Equal(bits, other) {
				expectDistance(t, bits, other)
			}
		}
		for i := range n {
			expectDistance(t, bits, with(bits, i, 1-bits[i]))
			if i >= 7 { // the distance of two ones after which the register is empty again
				other := with(bits, i, 1-bits[i])
				other[i-7] ^= 1
				expectDistance(t, bits, other)
			}
		}
	}
}

func expectDistance(t *testing.T, a, b []byte) {
	t.Helper()
	if d := ones(added(codeword(t, a), codeword(t, b))); d < 6 {
		t.Errorf("the codewords of %v and %v differ in %d bits", a, b, d)
	}
}

// P1 and the document's section Rules

// overwrite changes every element of a slice, and those for which it has room.
func overwrite[E any](l []E, v E) {
	for i := range l[:cap(l)] {
		l[:cap(l)][i] = v
	}
}

// calls are the functions that take bits.
var calls = map[string]func([]byte) []byte{
	"Encode": func(bits []byte) []byte { parity, _, _ := trellis.Encode(bits); return parity },
	"Word":   func(bits []byte) []byte { w, _ := trellis.Word(bits); return w },
	"Walk": func(bits []byte) []byte {
		var parity []byte
		for _, z := range trellis.Walk(bits) {
			parity = append(parity, byte(z))
		}
		return parity
	},
}

// TestArgumentsAreNotModified looks at the elements around the arguments, too.
func TestArgumentsAreNotModified(t *testing.T) {
	random := rand.New(rand.NewSource(14))
	for name, call := range calls {
		for _, n := range lengths {
			whole := randomBits(random, n+103)
			for _, element := range []byte{1, 2} {
				overwrite(whole[3+n/2:4+n/2:4+n/2], element)
				kept := slices.Clone(whole)
				call(whole[3 : 3+n])
				if !slices.Equal(whole, kept) {
					t.Errorf("%s of %d elements changes them", name, n)
				}
			}
		}
	}
}

func TestResultsShareNoMemory(t *testing.T) {
	random := rand.New(rand.NewSource(15))
	for name, call := range calls {
		for _, n := range lengths {
			bits := append(randomBits(random, n), randomBits(random, n+20)...)[:n]
			kept := slices.Clone(bits)
			first, second := call(bits), call(bits)
			want := slices.Clone(second)
			overwrite(first, 77)
			if !slices.Equal(bits, kept) {
				t.Errorf("%s of %d bits shares memory with its argument", name, n)
			}
			if !slices.Equal(second, want) || !slices.Equal(call(bits), want) {
				t.Errorf("%s of %d bits shares memory with another result", name, n)
			}
			overwrite(bits, 77)
			if !slices.Equal(second, want) {
				t.Errorf("%s of %d bits keeps its argument", name, n)
			}
		}
	}
}

func TestBranchesAreNewMemory(t *testing.T) {
	first, second := trellis.Branches(), trellis.Branches()
	want := slices.Clone(second)
	overwrite(first, api.Branch{From: -1, Bit: -1, Parity: -1, To: -1})
	if !slices.Equal(second, want) || !slices.Equal(trellis.Branches(), want) {
		t.Error("the branches share memory with another result")
	}
	for state, want := range into {
		expectPrevious(t, state, want, api.OK)
	}
	for state, row := range table {
		for bit, want := range row {
			expectStep(t, state, bit, want[0], want[1], api.OK)
		}
	}
}

// TestCapacityDoesNotCount has no bits behind the end of the slice.
func TestCapacityDoesNotCount(t *testing.T) {
	whole := []byte{1, 0, 0, 0, 2, 255}
	expectEncode(t, whole[:4], []byte{1, 1, 1, 1}, 6, api.OK)
	expectWord(t, whole[:1], []byte{1, 1, 0, 1, 1, 1, 0, 1}, api.OK)
	expectWalk(t, trellis.Walk(whole[:4]), [][2]int{{4, 1}, {2, 1}, {5, 1}, {6, 1}})
	expectWord(t, whole[4:4], make([]byte, 6), api.OK)
}

// TestCallsDoNotDependOnEarlierOnes calls again after other calls, after errors, and within a loop.
func TestCallsDoNotDependOnEarlierOnes(t *testing.T) {
	random := rand.New(rand.NewSource(16))
	kept := trellis.Walk([]byte{1, 0, 0, 0})
	for n := range 200 {
		bits := randomBits(random, n)
		for range kept {
			trellis.Step(n%11, n%3)
			trellis.Tail(n % 11)
			trellis.Previous(n % 11)
			trellis.Branches()
			for _, call := range calls {
				call(bits)
				call(append(bits, 2))
			}
		}
		for range trellis.Walk(bits) {
			break
		}
		expectWalk(t, kept, [][2]int{{4, 1}, {2, 1}, {5, 1}, {6, 1}})
		expectEncode(t, []byte{1, 0, 0, 0}, []byte{1, 1, 1, 1}, 6, api.OK)
		expectWord(t, []byte{1}, []byte{1, 1, 0, 1, 1, 1, 0, 1}, api.OK)
		expectStep(t, 0, 1, 4, 1, api.OK)
		expectTail(t, 4, [3]byte{0, 1, 1}, [3]byte{1, 0, 1}, api.OK)
		expectPrevious(t, 2, into[2], api.OK)
	}
}

func TestManyBits(t *testing.T) {
	bits := randomBits(rand.New(rand.NewSource(17)), 1<<21)
	parity, state := encoded(bits)
	expectEncode(t, bits, parity, state, api.OK)
	expectWord(t, bits, word(bits), api.OK)
	bits[len(bits)-1] = 2
	expectErrBit(t, bits)
	n := 0
	for range trellis.Walk(bits) {
		n++
	}
	if n != len(bits)-1 {
		t.Errorf("Walk: %d pairs", n)
	}
}
