package qpp_test

import (
	"iter"
	"math"
	"math/rand"
	"slices"
	"testing"

	"userplane/api"
	"userplane/qpp"
	"userplane/segment"
)

// first40 is the permutation of 40, written out, from a computation of its own.
var first40 = []int{0, 13, 6, 19, 12, 25, 18, 31, 24, 37, 30, 3, 36, 9, 2, 15, 8, 21, 14, 27, 20, 33, 26, 39, 32, 5, 38, 11, 4, 17, 10, 23, 16, 29, 22, 35, 28, 1, 34, 7}

// noSizes are integers that are no block size, and far from being one.
var noSizes = []int{0, 1, 2, 7, 8, 32, 39, 41, 42, 47, 49, 513, 520, 1025, 1040, 2049, 2080, 6143, 6145, 6146, 6152, 6208, 12288, 1<<16 + 40, math.MaxInt32, math.MaxInt - 63, math.MaxInt - 1, math.MaxInt, -1, -2, -8, -39, -40, -41, -6144, math.MinInt32, math.MinInt + 40, math.MinInt + 1, math.MinInt}

// defined reports by the definition of layer 5 whether k is a block size.
func defined(k int) bool {
	switch {
	case k < 40 || k > 6144:
		return false
	case k <= 512:
		return k%8 == 0
	case k <= 1024:
		return k%16 == 0
	case k <= 2048:
		return k%32 == 0
	}
	return k%64 == 0
}

// sizes returns the block sizes by their definition.
func sizes() []int {
	var l []int
	for k := range 7000 {
		if defined(k) {
			l = append(l, k)
		}
	}
	return l
}

// divisor returns the greatest common divisor of two positive integers.
func divisor(a, b int) int {
	for b > 0 {
		a, b = b, a%b
	}
	return a
}

// isPrime tries all divisors.
func isPrime(n int) bool {
	for d := 2; d < n; d++ {
		if n%d == 0 {
			return false
		}
	}
	return n > 1
}

// coefficients returns f1 and f2 by the chapter's definitions.
func coefficients(k int) (f1, f2 int) {
	f1, f2 = 3, 1
	for divisor(f1, k) != 1 {
		f1 += 2
	}
	for n := 2; n <= k; n++ {
		if k%n == 0 && isPrime(n) {
			f2 *= n
		}
	}
	return f1, f2
}

// permutation returns pi(0) to pi(k - 1) by the chapter's definition.
func permutation(k int) []int {
	f1, f2 := coefficients(k)
	l := make([]int, k)
	for i := range l {
		l[i] = int((int64(f1)*int64(i) + int64(f2)*int64(i)*int64(i)) % int64(k))
	}
	return l
}

// isFree reports by the chapter's definition whether a permutation is free of contention for w windows.
func isFree(pi []int, w int) bool {
	length := len(pi) / w
	for offset := range length {
		windows := map[int]bool{}
		for j := range w {
			windows[pi[offset+j*length]/length] = true
		}
		if len(windows) != w {
			return false
		}
	}
	return true
}

// divisors returns the numbers of windows that divide k.
func divisors(k int) []int {
	var l []int
	for w := 1; w <= k; w++ {
		if k%w == 0 {
			l = append(l, w)
		}
	}
	return l
}

// count returns n different integers in order.
func count(n int) []int {
	l := make([]int, n)
	for i := range l {
		l[i] = 1000 + i
	}
	return l
}

func randomInts(random *rand.Rand, n int) []int {
	l := make([]int, n)
	for i := range l {
		l[i] = int(random.Uint64())
	}
	copy(l, []int{math.MinInt, math.MaxInt, -1, 0, 1, math.MinInt32, math.MaxInt32})
	return l
}

func randomBytes(random *rand.Rand, n int) []byte {
	b := make([]byte, n)
	random.Read(b)
	copy(b, []byte{0, 1, 2, 127, 128, 255})
	return b
}

// interleaved returns the interleaved slice by the chapter's definition.
func interleaved[E any](l []E) []E {
	r := make([]E, len(l))
	for i, pi := range permutation(len(l)) {
		r[i] = l[pi]
	}
	return r
}

// pairs returns what an iterator yields.
func pairs(steps iter.Seq2[int, int]) [][2]int {
	l := [][2]int{}
	for i, pi := range steps {
		l = append(l, [2]int{i, pi})
	}
	return l
}

// steps returns the pairs of i and pi(i).
func steps(k int) [][2]int {
	l := make([][2]int, k)
	for i, pi := range permutation(k) {
		l[i] = [2]int{i, pi}
	}
	return l
}

func expectParams(t *testing.T, k, f1, f2 int, wantError api.Errno) {
	t.Helper()
	if a, b, e := qpp.Params(k); a != f1 || b != f2 || e != wantError {
		t.Errorf("Params(%d) = %d, %d, %v; want %d, %d, %v", k, a, b, e, f1, f2, wantError)
	}
}

func expectAt(t *testing.T, k, i, want int, wantError api.Errno) {
	t.Helper()
	if got, e := qpp.At(k, i); got != want || e != wantError {
		t.Errorf("At(%d, %d) = %d, %v; want %d, %v", k, i, got, e, want, wantError)
	}
}

func expectFree(t *testing.T, k, w int, want bool, wantError api.Errno) {
	t.Helper()
	if got, e := qpp.Free(k, w); got != want || e != wantError {
		t.Errorf("Free(%d, %d) = %v, %v; want %v, %v", k, w, got, e, want, wantError)
	}
}

// expectSlice compares the result of a call, which is named, with want.
func expectSlice[E comparable](t *testing.T, name string, k int, got []E, e api.Errno, want []E) {
	t.Helper()
	if e != api.OK || !slices.Equal(got, want) {
		t.Errorf("%s of %d: %d elements, error %v, or not as defined", name, k, len(got), e)
	}
}

// expectNothing expects that a call, which is named, returns ErrArg and no elements.
func expectNothing[E any](t *testing.T, name string, k int, got []E, e api.Errno) {
	t.Helper()
	if e != api.ErrArg || len(got) != 0 {
		t.Errorf("%s of %d: %d elements, error %v; want ErrArg", name, k, len(got), e)
	}
}

func order(t *testing.T, k int) []int {
	t.Helper()
	l, e := qpp.Order(k)
	if e != api.OK || len(l) != k {
		t.Fatalf("Order(%d): %d elements, error %v", k, len(l), e)
	}
	return l
}

func inverse(t *testing.T, k int) []int {
	t.Helper()
	l, e := qpp.Inverse(k)
	if e != api.OK || len(l) != k {
		t.Fatalf("Inverse(%d): %d elements, error %v", k, len(l), e)
	}
	return l
}

func TestExamples(t *testing.T) {
	expectParams(t, 40, 3, 10, api.OK)
	expectParams(t, 48, 5, 6, api.OK)
	expectParams(t, 6144, 5, 6, api.OK)
	expectParams(t, 41, 0, 0, api.ErrArg)
	expectAt(t, 40, 1, 13, api.OK)
	expectAt(t, 40, 2, 6, api.OK)
	expectAt(t, 40, 39, 7, api.OK)
	expectAt(t, 40, 40, 0, api.ErrRange)
	if l := order(t, 40); l[0] != 0 || l[1] != 13 || l[2] != 6 {
		t.Errorf("Order(40) = %v", l)
	}
	if l := inverse(t, 40); l[13] != 1 {
		t.Errorf("Inverse(40) = %v", l)
	}
	expectFree(t, 40, 4, true, api.OK)
	expectFree(t, 40, 3, false, api.ErrArg)
}

// P6.1

func TestParamsOfKnownValues(t *testing.T) {
	for _, x := range [][3]int{
		{40, 3, 10}, {48, 5, 6}, {56, 3, 14}, {64, 3, 2}, {88, 3, 22}, {104, 3, 26}, {120, 7, 30}, {240, 7, 30},
		{328, 3, 82}, {336, 5, 42}, {344, 3, 86}, {360, 7, 30}, {440, 3, 110}, {480, 7, 30}, {488, 3, 122},
		{496, 3, 62}, {504, 5, 42}, {512, 3, 2}, {528, 5, 66}, {624, 5, 78}, {816, 5, 102}, {1008, 5, 42},
		{1024, 3, 2}, {1056, 5, 66}, {1120, 3, 70}, {1248, 5, 78}, {1920, 7, 30}, {2016, 5, 42}, {2048, 3, 2},
		{2112, 5, 66}, {3840, 7, 30}, {4096, 3, 2}, {4928, 3, 154}, {5568, 5, 174}, {5696, 3, 178},
		{5760, 7, 30}, {5952, 5, 186}, {6016, 3, 94}, {6080, 3, 190}, {6144, 5, 6},
	} {
		expectParams(t, x[0], x[1], x[2], api.OK)
	}
}

// TestParamsOfEveryInteger tries every block size, the numbers beside it, and all others around them.
func TestParamsOfEveryInteger(t *testing.T) {
	for k := -7000; k <= 13000; k++ {
		if defined(k) {
			f1, f2 := coefficients(k)
			expectParams(t, k, f1, f2, api.OK)
		} else {
			expectParams(t, k, 0, 0, api.ErrArg)
		}
	}
	for _, k := range noSizes {
		expectParams(t, k, 0, 0, api.ErrArg)
	}
}

func TestAtOfKnownValues(t *testing.T) {
	for i, want := range first40 {
		expectAt(t, 40, i, want, api.OK)
	}
	for _, x := range [][3]int{
		{64, 1, 5}, {64, 63, 63}, {120, 1, 37}, {120, 60, 60}, {120, 119, 23}, {488, 487, 119}, {512, 300, 164},
		{1008, 1007, 37}, {2048, 1024, 1024}, {5760, 4321, 1477}, {6016, 6015, 91}, {6080, 6079, 187},
		{6144, 1, 11}, {6144, 3072, 3072}, {6144, 5000, 808}, {6144, 6143, 1},
	} {
		expectAt(t, x[0], x[1], x[2], api.OK)
	}
}

func TestAtOfEveryIndex(t *testing.T) {
	for _, k := range sizes() {
		for i, want := range permutation(k) {
			if got, e := qpp.At(k, i); got != want || e != api.OK {
				t.Fatalf("At(%d, %d) = %d, %v; want %d", k, i, got, e, want)
			}
		}
	}
}

func TestAtOutOfRange(t *testing.T) {
	for _, k := range sizes() {
		for _, i := range []int{-1, -2, -k, 1 - k, k, k + 1, 2 * k, 6144, math.MinInt32, math.MaxInt32, math.MinInt, math.MinInt + 1, math.MaxInt - 1, math.MaxInt} {
			if i < 0 || i >= k {
				expectAt(t, k, i, 0, api.ErrRange)
			}
		}
	}
}

// TestAtErrArgBeforeErrRange has indices that are in and out of every range.
func TestAtErrArgBeforeErrRange(t *testing.T) {
	indices := []int{0, 1, 38, 39, 40, 6143, -1, math.MinInt, math.MaxInt}
	for _, k := range noSizes {
		for _, i := range append(indices, k, k-1, k+1) {
			expectAt(t, k, i, 0, api.ErrArg)
		}
	}
	for _, k := range sizes() {
		for _, i := range indices {
			expectAt(t, k-1, i, 0, api.ErrArg)
			expectAt(t, k+1, i, 0, api.ErrArg)
		}
	}
}

// P6.2

func TestOrderAndInverseOfKnownValues(t *testing.T) {
	l, e := qpp.Order(40)
	expectSlice(t, "Order", 40, l, e, first40)
	want := make([]int, 40)
	for i, pi := range first40 {
		want[pi] = i
	}
	l, e = qpp.Inverse(40)
	expectSlice(t, "Inverse", 40, l, e, want)
}

func TestOrderAndInverseOfEverySize(t *testing.T) {
	for _, k := range sizes() {
		pi := permutation(k)
		l, e := qpp.Order(k)
		expectSlice(t, "Order", k, l, e, pi)
		for at, i := range inverse(t, k) {
			if i < 0 || i >= k || pi[i] != at {
				t.Fatalf("element %d of Inverse(%d) is %d", at, k, i)
			}
		}
	}
}

func TestOrderAndInverseOfOtherIntegers(t *testing.T) {
	expectNone := func(k int) {
		t.Helper()
		l, e := qpp.Order(k)
		expectNothing(t, "Order", k, l, e)
		l, e = qpp.Inverse(k)
		expectNothing(t, "Inverse", k, l, e)
	}
	for k := -7000; k <= 13000; k++ {
		if !defined(k) {
			expectNone(k)
		}
	}
	for _, k := range noSizes {
		expectNone(k)
	}
}

// P6.3

func TestInterleaveAndDeinterleaveOfKnownValues(t *testing.T) {
	l := count(40)
	want := make([]int, 40)
	for i, pi := range first40 {
		want[i] = 1000 + pi
	}
	got, e := qpp.Interleave(l)
	expectSlice(t, "Interleave", 40, got, e, want)
	got, e = qpp.Deinterleave(want)
	expectSlice(t, "Deinterleave", 40, got, e, l)
	got, e = qpp.Deinterleave(l)
	if e != api.OK || len(got) != 40 || got[0] != 1000 || got[13] != 1001 || got[6] != 1002 || got[7] != 1039 {
		t.Errorf("Deinterleave of 1000 to 1039 = %v, %v", got, e)
	}
}

func TestSlicesOfEverySize(t *testing.T) {
	random := rand.New(rand.NewSource(1))
	for _, k := range sizes() {
		for _, l := range [][]int{count(k), make([]int, k), randomInts(random, k)} {
			want := interleaved(l)
			got, e := qpp.Interleave(l)
			expectSlice(t, "Interleave", k, got, e, want)
			got, e = qpp.Deinterleave(want)
			expectSlice(t, "Deinterleave", k, got, e, l)
		}
		for range 3 {
			b := randomBytes(random, k)
			got, e := qpp.Bits(b)
			expectSlice(t, "Bits", k, got, e, interleaved(b))
		}
	}
}

// TestBitsOfEveryByte has each value of a byte at each place.
func TestBitsOfEveryByte(t *testing.T) {
	for x := range 256 {
		b := make([]byte, 256)
		for i := range b {
			b[i] = byte(i + x)
		}
		got, e := qpp.Bits(b)
		expectSlice(t, "Bits", 256, got, e, interleaved(b))
	}
}

func TestSlicesOfOtherLengths(t *testing.T) {
	random := rand.New(rand.NewSource(2))
	ints, bytes := randomInts(random, 13000), randomBytes(random, 13000)
	expectNone := func(l []int, b []byte) {
		t.Helper()
		got, e := qpp.Interleave(l)
		expectNothing(t, "Interleave", len(l), got, e)
		got, e = qpp.Deinterleave(l)
		expectNothing(t, "Deinterleave", len(l), got, e)
		gotBytes, e := qpp.Bits(b)
		expectNothing(t, "Bits", len(b), gotBytes, e)
	}
	expectNone(nil, nil)
	expectNone([]int{}, []byte{})
	for n := range 13001 {
		if !defined(n) {
			expectNone(ints[:n], bytes[:n])
		}
	}
	expectNone(make([]int, 1<<20), make([]byte, 1<<20))
}

// P6.4

func TestStepsOfEverySize(t *testing.T) {
	for _, k := range sizes() {
		if got := pairs(qpp.Steps(k)); !slices.Equal(got, steps(k)) {
			t.Errorf("Steps(%d) yields %d pairs, or not as defined", k, len(got))
		}
	}
}

func TestStepsOfOtherIntegers(t *testing.T) {
	expectNone := func(k int) {
		t.Helper()
		s := qpp.Steps(k)
		if s == nil {
			t.Fatalf("Steps(%d) is nil", k)
		}
		for range 2 {
			if got := pairs(s); len(got) != 0 {
				t.Errorf("Steps(%d) yields %d pairs", k, len(got))
			}
		}
	}
	for k := -7000; k <= 13000; k++ {
		if !defined(k) {
			expectNone(k)
		}
	}
	for _, k := range noSizes {
		expectNone(k)
	}
}

// expectLeft leaves the loop after some pairs, and expects that the iterator starts again from the beginning.
func expectLeft(t *testing.T, k int, s iter.Seq2[int, int], want [][2]int, end int) {
	t.Helper()
	var got [][2]int
	s(func(i, pi int) bool {
		got = append(got, [2]int{i, pi})
		return len(got) < end
	})
	if !slices.Equal(got, want[:end]) {
		t.Fatalf("Steps(%d), left after %d pairs: %d pairs, or not as defined", k, end, len(got))
	}
	for i, pi := range s {
		if i != 0 || pi != 0 {
			t.Fatalf("Steps(%d), used again: %d, %d", k, i, pi)
		}
		break
	}
}

func TestStepsLeftEarly(t *testing.T) {
	for _, k := range sizes() {
		s, want := qpp.Steps(k), steps(k)
		for _, end := range []int{1, 2, 3, k / 2, k - 1, k} {
			expectLeft(t, k, s, want, end)
		}
		if got := pairs(s); !slices.Equal(got, want) {
			t.Fatalf("Steps(%d), used again: %d pairs, or not as defined", k, len(got))
		}
	}
	s, want := qpp.Steps(240), steps(240)
	for end := 1; end <= 240; end++ {
		expectLeft(t, 240, s, want, end)
	}
}

func TestStepsWithinThemselves(t *testing.T) {
	s, want := qpp.Steps(120), steps(120)
	rounds := 0
	for i, pi := range s {
		if got := pairs(s); !slices.Equal(got, want) {
			t.Fatalf("within step %d: %v; want %v", i, got, want)
		}
		if want[rounds] != [2]int{i, pi} {
			t.Fatalf("step %d: %d, %d; want %v", rounds, i, pi, want[rounds])
		}
		rounds++
	}
	if rounds != 120 {
		t.Errorf("%d steps", rounds)
	}
}

// P6.5

func TestFreeOfEveryNumberOfWindows(t *testing.T) {
	for _, k := range sizes() {
		pi := permutation(k)
		for _, w := range divisors(k) {
			expectFree(t, k, w, isFree(pi, w), api.OK)
		}
	}
}

func TestFreeOfNumbersThatDoNotDivide(t *testing.T) {
	for _, k := range sizes() {
		for w := 1; w <= k+1; w++ {
			if k%w != 0 {
				expectFree(t, k, w, false, api.ErrArg)
			}
		}
		for _, w := range []int{0, -1, -2, -4, -8, -k / 2, -k, 1 - k, k + 1, 2 * k, k * k, math.MinInt32, math.MaxInt32, math.MinInt, math.MinInt + 1, math.MaxInt - 1, math.MaxInt} {
			expectFree(t, k, w, false, api.ErrArg)
		}
	}
}

// TestFreeOfOtherIntegers has numbers of windows that divide, and that do not.
func TestFreeOfOtherIntegers(t *testing.T) {
	windows := []int{1, 2, 4, 8, 0, -1, -8, 40, math.MinInt, math.MaxInt}
	expectNone := func(k int) {
		t.Helper()
		for _, w := range append(windows, k, -k) {
			expectFree(t, k, w, false, api.ErrArg)
		}
	}
	for k := -7000; k <= 13000; k++ {
		if !defined(k) {
			expectNone(k)
		}
	}
	for _, k := range noSizes {
		expectNone(k)
	}
}

// P6.6

func TestThePermutationIsABijection(t *testing.T) {
	for _, k := range sizes() {
		l := order(t, k)
		if l[0] != 0 {
			t.Errorf("pi(0) of %d is %d", k, l[0])
		}
		for i, pi := range l {
			if i%2 != pi%2 {
				t.Fatalf("pi(%d) of %d is %d", i, k, pi)
			}
		}
		slices.Sort(l)
		for i := range l {
			if l[i] != i {
				t.Fatalf("Order(%d) is no bijection: %d is missing", k, i)
			}
		}
	}
}

func TestThePermutationIsFreeOfContention(t *testing.T) {
	for _, k := range sizes() {
		l := order(t, k)
		for _, w := range divisors(k) {
			if !isFree(l, w) {
				t.Errorf("Order(%d) is not free of contention for %d windows", k, w)
			}
			expectFree(t, k, w, true, api.OK)
		}
	}
}

func TestInterleaveAndDeinterleaveAreInverse(t *testing.T) {
	random := rand.New(rand.NewSource(3))
	for _, k := range sizes() {
		l := randomInts(random, k)
		there, _ := qpp.Interleave(l)
		back, e := qpp.Deinterleave(there)
		expectSlice(t, "Deinterleave of Interleave", k, back, e, l)
		there, _ = qpp.Deinterleave(l)
		back, e = qpp.Interleave(there)
		expectSlice(t, "Interleave of Deinterleave", k, back, e, l)
	}
}

// TestTheFunctionsAgree compares every function with At.
func TestTheFunctionsAgree(t *testing.T) {
	for _, k := range []int{40, 48, 120, 512, 528, 1056, 6144} {
		f1, f2, _ := qpp.Params(k)
		l, m := order(t, k), inverse(t, k)
		for i, pi := range qpp.Steps(k) {
			at, e := qpp.At(k, i)
			if e != api.OK || at != pi || l[i] != pi || m[pi] != i || (f1+f2*i)%k*i%k != pi {
				t.Fatalf("K %d, i %d: %d, %d, %d, %d, %v", k, i, at, pi, l[i], m[pi], e)
			}
		}
	}
}

func TestEverySizeOfLayer5IsOne(t *testing.T) {
	if !slices.Equal(segment.Sizes(), sizes()) || len(sizes()) != 188 {
		t.Fatal("the sizes are not those of layer 5")
	}
	for _, k := range segment.Sizes() {
		order(t, k)
	}
}

// P1 and the document's section Rules

// overwrite changes every element of a slice, and those for which it has room.
func overwrite[E any](l []E, v E) {
	for i := range l[:cap(l)] {
		l[:cap(l)][i] = v
	}
}

func TestOrderAndInverseAreNewMemory(t *testing.T) {
	for _, k := range sizes() {
		for name, call := range map[string]func(int) ([]int, api.Errno){"Order": qpp.Order, "Inverse": qpp.Inverse} {
			first, _ := call(k)
			second, _ := call(k)
			want := slices.Clone(second)
			overwrite(first, -1)
			third, e := call(k)
			expectSlice(t, name, k, second, api.OK, want)
			expectSlice(t, name, k, third, e, want)
		}
	}
}

// expectNewMemory expects that a result shares no memory with the argument or with another result.
func expectNewMemory[E comparable](t *testing.T, name string, l []E, v E, call func([]E) ([]E, api.Errno)) {
	t.Helper()
	kept := slices.Clone(l)
	first, _ := call(l)
	second, _ := call(l)
	want := slices.Clone(second)
	overwrite(first, v)
	expectSlice(t, name+": the argument", len(l), l, api.OK, kept)
	expectSlice(t, name+": another result", len(l), second, api.OK, want)
	overwrite(l, v)
	expectSlice(t, name+": the result", len(l), second, api.OK, want)
}

func TestResultsShareNoMemory(t *testing.T) {
	for _, k := range sizes() {
		expectNewMemory(t, "Interleave", count(k), -1, qpp.Interleave)
		expectNewMemory(t, "Deinterleave", count(k), -1, qpp.Deinterleave)
		expectNewMemory(t, "Bits", make([]byte, k), 77, qpp.Bits)
	}
}

// expectUnchanged expects that a call changes neither its argument nor what lies around it.
func expectUnchanged[E comparable](t *testing.T, name string, whole []E, call func([]E) ([]E, api.Errno)) {
	t.Helper()
	kept := slices.Clone(whole)
	call(whole[3 : len(whole)-100])
	expectSlice(t, name+": the argument", len(whole)-103, whole, api.OK, kept)
}

func TestArgumentsAreNotModified(t *testing.T) {
	random := rand.New(rand.NewSource(4))
	for _, k := range append(sizes(), 0, 1, 39, 41, 520, 6143, 6145, 7000) {
		expectUnchanged(t, "Interleave", randomInts(random, k+103), qpp.Interleave)
		expectUnchanged(t, "Deinterleave", randomInts(random, k+103), qpp.Deinterleave)
		expectUnchanged(t, "Bits", randomBytes(random, k+103), qpp.Bits)
	}
}

// TestCapacityDoesNotCount has slices whose capacity is a block size, or is none.
func TestCapacityDoesNotCount(t *testing.T) {
	whole := count(6144)
	for _, n := range []int{0, 39, 41, 6143} {
		l, e := qpp.Interleave(whole[:n])
		expectNothing(t, "Interleave", n, l, e)
	}
	l, e := qpp.Interleave(whole[:40:45])
	expectSlice(t, "Interleave", 40, l, e, interleaved(count(40)))
}

// TestCallsDoNotDependOnEarlierOnes calls again after calls with other sizes and after errors.
func TestCallsDoNotDependOnEarlierOnes(t *testing.T) {
	kept := qpp.Steps(48)
	for _, k := range append(sizes(), noSizes...) {
		qpp.Params(k)
		qpp.At(k, 3)
		qpp.Order(k)
		qpp.Inverse(k)
		qpp.Free(k, 4)
		qpp.Interleave(make([]int, k&8191))
		qpp.Deinterleave(make([]int, k&8191))
		qpp.Bits(make([]byte, k&8191))
		pairs(qpp.Steps(k))
		l, e := qpp.Order(40)
		expectSlice(t, "Order", 40, l, e, first40)
		expectParams(t, 40, 3, 10, api.OK)
		expectAt(t, 40, 39, 7, api.OK)
		if got := pairs(kept); !slices.Equal(got, steps(48)) {
			t.Fatalf("after %d: Steps(48) = %v", k, got)
		}
	}
}

// TestWithinTheLoop calls the other functions while an iterator runs.
func TestWithinTheLoop(t *testing.T) {
	want := steps(40)
	for i, pi := range qpp.Steps(40) {
		qpp.Order(6144)
		pairs(qpp.Steps(48))
		if want[i] != [2]int{i, pi} {
			t.Fatalf("step %d: pi(i) = %d", i, pi)
		}
	}
}
