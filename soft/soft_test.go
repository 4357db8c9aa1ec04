package soft_test

import (
	"bytes"
	"iter"
	"math"
	"math/big"
	"math/rand"
	"slices"
	"testing"

	"userplane/api"
	"userplane/soft"
)

// saturated are pairs of integers with their saturating sums, from a computation of its own that uses nothing of this program.
var saturated = [][3]int{
	{0, 0, 0}, {1, 2, 3}, {-1, 1, 0}, {64, 63, 127}, {64, 64, 127}, {63, 65, 127}, {-64, -63, -127}, {-64, -64, -127},
	{127, 127, 127}, {-127, -127, -127}, {127, -127, 0}, {100, -30, 70}, {128, -128, 0}, {200, -100, 27}, {-200, 100, -27},
	{1000, -1, 126}, {1000, -127, 0}, {1000, -1000, 0}, {-1000, 1, -126}, {126, 1, 127}, {126, 2, 127}, {-126, -2, -127},
	{5, 300, 127}, {-300, 5, -122}, {math.MaxInt32, math.MinInt32, 0}, {math.MaxInt, math.MaxInt, 127},
	{math.MinInt, math.MinInt, -127}, {math.MinInt, math.MaxInt, 0}, {math.MaxInt, -1, 126}, {math.MinInt, 1, -126},
}

// Soft values with others to be added to them, their sums, hard decisions and bits to compare them with, from the same computation.
var (
	known24     = []int{127, -127, 0, 1, -1, 72, -8, -12, 3, 91, 23, -79, -80, 78, 4, -6, 34, 30, 76, -80, -103, -13, -50, -91}
	others24    = []int{-104, 10, 80, 100, 50, 35, -117, 25, 124, -26, 119, -12, 40, 62, 30, 39, -87, 32, -124, 85, 8, -111, -112, -118}
	sums24      = []int{23, -117, 80, 101, 49, 107, -125, 13, 127, 65, 127, -91, -40, 127, 34, 33, -53, 62, -48, 5, -95, -124, -127, -127}
	decisions24 = "010010110001100100011111"
	bits24      = "000111001100111011010001"
)

// The numbers of wrong and of unknown elements that known24 has for bits24, from the same computation.
const wrong24, unknown24 = 16, 1

// scaled24 are numerators and denominators with known24 scaled by them, from the same computation.
var scaled24 = []struct {
	num, den int
	values   []int
}{
	{1, 1, known24},
	{1, 2, []int{63, -63, 0, 0, 0, 36, -4, -6, 1, 45, 11, -39, -40, 39, 2, -3, 17, 15, 38, -40, -51, -6, -25, -45}},
	{3, 4, []int{95, -95, 0, 0, 0, 54, -6, -9, 2, 68, 17, -59, -60, 58, 3, -4, 25, 22, 57, -60, -77, -9, -37, -68}},
	{2, 3, []int{84, -84, 0, 0, 0, 48, -5, -8, 2, 60, 15, -52, -53, 52, 2, -4, 22, 20, 50, -53, -68, -8, -33, -60}},
	{1, 127, []int{1, -1, 0, 0, 0, 0, 0, 0, 0, 0, 0, 0, 0, 0, 0, 0, 0, 0, 0, 0, 0, 0, 0, 0}},
	{126, 127, []int{126, -126, 0, 0, 0, 71, -7, -11, 2, 90, 22, -78, -79, 77, 3, -5, 33, 29, 75, -79, -102, -12, -49, -90}},
	{127, 126, known24},
	{5, 4, []int{127, -127, 0, 1, -1, 90, -10, -15, 3, 113, 28, -98, -100, 97, 5, -7, 42, 37, 95, -100, -127, -16, -62, -113}},
	{2, 1, []int{127, -127, 0, 2, -2, 127, -16, -24, 6, 127, 46, -127, -127, 127, 8, -12, 68, 60, 127, -127, -127, -26, -100, -127}},
	{7, 3, []int{127, -127, 0, 2, -2, 127, -18, -28, 7, 127, 53, -127, -127, 127, 9, -14, 79, 70, 127, -127, -127, -30, -116, -127}},
	{1 << 30, 1 << 30, known24},
	{1<<30 - 1, 1 << 30, []int{126, -126, 0, 0, 0, 71, -7, -11, 2, 90, 22, -78, -79, 77, 3, -5, 33, 29, 75, -79, -102, -12, -49, -90}},
	{1 << 30, 1<<30 - 1, known24},
	{1<<30 - 1, 12345678, []int{127, -127, 0, 86, -86, 127, -127, -127, 127, 127, 127, -127, -127, 127, 127, -127, 127, 127, 127, -127, -127, -127, -127, -127}},
}

// Integers that are no soft value, no magnitude, no numerator and no denominator, some of them equal to one if they were cut.
var (
	noValues       = []int{128, 129, 255, 256, 257, 1 << 16, 1<<16 + 5, 1<<32 - 1, 1 << 32, 1<<32 + 5, math.MaxInt32, math.MaxInt - 1, math.MaxInt, -128, -129, -255, -256, -257, -1 << 16, -1 << 32, math.MinInt32, math.MinInt + 127, math.MinInt + 1, math.MinInt}
	noMagnitudes   = []int{128, 129, 255, 256, 257, 1 << 16, 1<<16 + 9, 1 << 32, 1<<32 + 9, math.MaxInt32, math.MaxInt - 1, math.MaxInt, -1, -2, -9, -127, -128, -255, -1 << 32, math.MinInt32, math.MinInt + 9, math.MinInt + 1, math.MinInt}
	noNumerators   = []int{1<<30 + 1, 1<<30 + 2, math.MaxInt32, 1 << 31, 1<<32 - 1, 1 << 32, 1<<32 + 3, math.MaxInt - 1, math.MaxInt, -1, -2, -3, -1 << 30, -1<<30 - 1, math.MinInt32, -1 << 32, math.MinInt + 3, math.MinInt + 1, math.MinInt}
	noDenominators = append([]int{0}, noNumerators...)
)

// Some numerators and denominators, the least and the greatest among them.
var (
	someNumerators   = []int{0, 1, 2, 3, 127, 128, 255, 1 << 16, 1<<24 - 1, 1<<30 - 1, 1 << 30}
	someDenominators = someNumerators[1:]
)

// extremes are integers whose sums do not fit an int, and others outside the soft values.
var extremes = append([]int{0, 1, 5, 126, 127, -1, -5, -126, -127}, noValues...)

// all returns all soft values in increasing order.
func all() []int {
	var l []int
	for v := -127; v <= 127; v++ {
		l = append(l, v)
	}
	return l
}

// nearest returns the soft value with the least distance to an integer.
func nearest(v int) int {
	best := 0
	distance := func(s int) *big.Int {
		d := new(big.Int).Sub(big.NewInt(int64(v)), big.NewInt(int64(s)))
		return d.Abs(d)
	}
	for _, s := range all() {
		if distance(s).Cmp(distance(best)) < 0 {
			best = s
		}
	}
	return best
}

// plus returns the saturating sum by its definition.
func plus(a, b int) int { return nearest(nearest(a) + nearest(b)) }

// quotient returns v num / den by its definition.
func quotient(v, num, den int) int {
	q := new(big.Int).Mul(big.NewInt(int64(v)), big.NewInt(int64(num)))
	q.Quo(q, big.NewInt(int64(den)))
	switch {
	case q.Cmp(big.NewInt(127)) > 0:
		return 127
	case q.Cmp(big.NewInt(-127)) < 0:
		return -127
	}
	return int(q.Int64())
}

// hard returns the hard decisions by their definition.
func hard(l []int) []byte {
	b := make([]byte, len(l))
	for i, v := range l {
		if v < 0 {
			b[i] = 1
		}
	}
	return b
}

// compared returns the numbers of wrong and of unknown elements by their definition.
func compared(l []int, bits []byte) (wrong, unknown int) {
	for i, v := range l {
		switch {
		case v == 0:
			unknown++
		case v < 0 && bits[i] == 0, v > 0 && bits[i] == 1:
			wrong++
		}
	}
	return wrong, unknown
}

// weakest returns the index that Least returns, by its definition: the first one of the absolute value 0, or else of 1, and so on.
func weakest(l []int) int {
	for magnitude := 0; magnitude <= 127; magnitude++ {
		for i, v := range l {
			if v == magnitude || v == -magnitude {
				return i
			}
		}
	}
	return -1
}

// sign is an index with a hard decision.
type sign struct {
	index int
	bit   byte
}

// signs returns what Signs yields, by its definition.
func signs(l []int) []sign {
	var s []sign
	for i, v := range l {
		if v != 0 {
			s = append(s, sign{i, hard(l)[i]})
		}
	}
	return s
}

// take returns what an iterator yields at first, at most n pairs, and leaves it then.
func take(pairs iter.Seq2[int, byte], n int) []sign {
	var s []sign
	if n == 0 {
		return s
	}
	for i, bit := range pairs {
		s = append(s, sign{i, bit})
		if len(s) == n {
			break
		}
	}
	return s
}

// randomSoft returns n soft values, a third of which have at most a certain magnitude.
func randomSoft(random *rand.Rand, n, most int) []int {
	l := make([]int, n)
	for i := range l {
		l[i] = random.Intn(255) - 127
		if random.Intn(3) == 0 {
			l[i] = random.Intn(2*most+1) - most
		}
	}
	return l
}

func randomBits(random *rand.Rand, n int) []byte {
	b := make([]byte, n)
	for i := range b {
		b[i] = byte(random.Intn(2))
	}
	return b
}

// digits returns the elements that a string of digits shows.
func digits(s string) []byte {
	b := make([]byte, len(s))
	for i := range b {
		b[i] = s[i] - '0'
	}
	return b
}

// with returns a slice with another element at an index.
func with[E any](l []E, i int, element E) []E {
	c := slices.Clone(l)
	c[i] = element
	return c
}

// brief returns the beginning of a slice, for messages.
func brief[E any](l []E) []E { return l[:min(len(l), 30)] }

func expectClamp(t *testing.T, v, want int) {
	t.Helper()
	if got := soft.Clamp(v); got != want {
		t.Errorf("Clamp(%d) = %d; want %d", v, got, want)
	}
}

func expectAdd(t *testing.T, a, b, want int) {
	t.Helper()
	if got := soft.Add(a, b); got != want {
		t.Errorf("Add(%d, %d) = %d; want %d", a, b, got, want)
	}
}

func expectValid(t *testing.T, l []int, want bool) {
	t.Helper()
	if got := soft.Valid(l); got != want {
		t.Errorf("Valid of %d elements %v = %t", len(l), brief(l), got)
	}
}

func expectSum(t *testing.T, a, b, want []int, wantError api.Errno) {
	t.Helper()
	if got, e := soft.Sum(a, b); !slices.Equal(got, want) || e != wantError {
		t.Errorf("Sum of %d elements %v and %d elements %v = %v, %v; want %v, %v", len(a), brief(a), len(b), brief(b), brief(got), e, brief(want), wantError)
	}
}

func expectHard(t *testing.T, l []int, want []byte, wantError api.Errno) {
	t.Helper()
	if got, e := soft.Hard(l); !bytes.Equal(got, want) || e != wantError {
		t.Errorf("Hard of %d elements %v = %v, %v; want %v, %v", len(l), brief(l), brief(got), e, brief(want), wantError)
	}
}

func expectIdeal(t *testing.T, bits []byte, m int, want []int, wantError api.Errno) {
	t.Helper()
	if got, e := soft.Ideal(bits, m); !slices.Equal(got, want) || e != wantError {
		t.Errorf("Ideal of %d elements %v, %d = %v, %v; want %v, %v", len(bits), brief(bits), m, brief(got), e, brief(want), wantError)
	}
}

func expectScale(t *testing.T, l []int, num, den int, want []int, wantError api.Errno) {
	t.Helper()
	if got, e := soft.Scale(l, num, den); !slices.Equal(got, want) || e != wantError {
		t.Errorf("Scale of %d elements %v, %d, %d = %v, %v; want %v, %v", len(l), brief(l), num, den, brief(got), e, brief(want), wantError)
	}
}

func expectCompare(t *testing.T, l []int, bits []byte, wrong, unknown int, wantError api.Errno) {
	t.Helper()
	if w, u, e := soft.Compare(l, bits); w != wrong || u != unknown || e != wantError {
		t.Errorf("Compare of %d elements %v and %d elements %v = %d, %d, %v; want %d, %d, %v", len(l), brief(l), len(bits), brief(bits), w, u, e, wrong, unknown, wantError)
	}
}

func expectLeast(t *testing.T, l []int, want int, wantError api.Errno) {
	t.Helper()
	if got, e := soft.Least(l); got != want || e != wantError {
		t.Errorf("Least of %d elements %v = %d, %v; want %d, %v", len(l), brief(l), got, e, want, wantError)
	}
}

// expectSigns expects what is left of an iterator over signs.
func expectSigns(t *testing.T, pairs iter.Seq2[int, byte], want []sign) {
	t.Helper()
	if got := take(pairs, -1); !slices.Equal(got, want) {
		t.Errorf("Signs yields %d pairs %v; want %d pairs %v", len(got), brief(got), len(want), brief(want))
	}
}

// expectResults expects the results of every function for a slice of soft values, with bits for Compare.
func expectResults(t *testing.T, l []int, bits []byte) {
	t.Helper()
	expectValid(t, l, true)
	expectSum(t, l, l, mapped(l, func(v int) int { return plus(v, v) }), api.OK)
	expectHard(t, l, hard(l), api.OK)
	expectScale(t, l, 3, 4, mapped(l, func(v int) int { return quotient(v, 3, 4) }), api.OK)
	wrong, unknown := compared(l, bits)
	expectCompare(t, l, bits, wrong, unknown, api.OK)
	if len(l) > 0 {
		expectLeast(t, l, weakest(l), api.OK)
	}
	expectSigns(t, soft.Signs(l), signs(l))
}

// expectNoSlice expects that no function takes a slice of integers.
func expectNoSlice(t *testing.T, l []int) {
	t.Helper()
	expectSum(t, l, make([]int, len(l)), nil, api.ErrArg)
	expectSum(t, make([]int, len(l)), l, nil, api.ErrArg)
	expectSum(t, l, l, nil, api.ErrArg)
	expectHard(t, l, nil, api.ErrArg)
	expectScale(t, l, 3, 4, nil, api.ErrArg)
	expectScale(t, l, 0, 1, nil, api.ErrArg)
	expectCompare(t, l, make([]byte, len(l)), 0, 0, api.ErrArg)
	expectLeast(t, l, 0, api.ErrArg)
	expectSigns(t, soft.Signs(l), nil)
}

func mapped(l []int, result func(v int) int) []int {
	c := make([]int, len(l))
	for i, v := range l {
		c[i] = result(v)
	}
	return c
}

func TestExamples(t *testing.T) {
	expectClamp(t, 200, 127)
	expectClamp(t, -128, -127)
	expectAdd(t, 100, 100, 127)
	expectAdd(t, -500, 127, 0)
	expectValid(t, []int{127, -127}, true)
	expectValid(t, []int{128}, false)
	expectSum(t, []int{1, -100}, []int{2, -100}, []int{3, -127}, api.OK)
	expectScale(t, []int{7, -7, 127}, 3, 4, []int{5, -5, 95}, api.OK)
	expectScale(t, []int{100}, 2, 1, []int{127}, api.OK)
	expectSum(t, []int{1}, []int{}, nil, api.ErrArg)
	expectHard(t, []int{5, -1, 0}, []byte{0, 1, 0}, api.OK)
	expectIdeal(t, []byte{0, 1}, 9, []int{9, -9}, api.OK)
	expectIdeal(t, []byte{2}, 9, nil, api.ErrBit)
	expectCompare(t, []int{5, -1, 0, 3}, []byte{0, 0, 1, 1}, 2, 1, api.OK)
	expectLeast(t, []int{5, -2, 2}, 1, api.OK)
}

// P11.1

func TestClamp(t *testing.T) {
	for v := -600; v <= 600; v++ {
		expectClamp(t, v, nearest(v))
	}
	for _, v := range noValues {
		expectClamp(t, v, nearest(v))
	}
	for shift := 7; shift < 63; shift++ {
		for v := range 130 {
			expectClamp(t, 1<<shift+v, 127)
			expectClamp(t, -1<<shift-v, -127)
		}
	}
}

func TestKnownSums(t *testing.T) {
	for _, x := range saturated {
		expectAdd(t, x[0], x[1], x[2])
	}
	expectSum(t, known24, others24, sums24, api.OK)
}

func TestAdd(t *testing.T) {
	for _, a := range all() {
		for _, b := range all() {
			want := a + b
			switch {
			case want > 127:
				want = 127
			case want < -127:
				want = -127
			}
			expectAdd(t, a, b, want)
		}
	}
}

// TestAddOfOtherIntegers has integers that are clamped before they are added, at least one of them.
func TestAddOfOtherIntegers(t *testing.T) {
	for v := -300; v <= 300; v += 3 {
		for w := -150; w <= 150; w += 5 {
			expectAdd(t, v, w, plus(v, w))
		}
	}
	for _, v := range extremes {
		for _, w := range extremes {
			expectAdd(t, v, w, plus(v, w))
		}
	}
}

func TestValid(t *testing.T) {
	expectValid(t, all(), true)
	expectValid(t, nil, true)
	expectValid(t, []int{}, true)
	for _, v := range all() {
		expectValid(t, []int{v}, true)
	}
	for v := 128; v <= 1000; v++ {
		expectValid(t, []int{v}, false)
		expectValid(t, []int{-v}, false)
	}
	for _, v := range noValues {
		expectValid(t, []int{v}, false)
		for i := range known24 {
			expectValid(t, with(known24, i, v), false)
		}
		expectValid(t, []int{v, -v}, false)
	}
}

// P11.2

func TestSum(t *testing.T) {
	random := rand.New(rand.NewSource(1))
	for n := range 60 {
		a, b := randomSoft(random, n, 10), randomSoft(random, n, 10)
		want := make([]int, n)
		for i := range want {
			want[i] = plus(a[i], b[i])
		}
		expectSum(t, a, b, want, api.OK)
		expectSum(t, b, a, want, api.OK)
	}
	for _, v := range all() {
		want := mapped(all(), func(w int) int { return min(max(v+w, -127), 127) })
		expectSum(t, slices.Repeat([]int{v}, 255), all(), want, api.OK)
	}
}

func TestSumOfOtherLengths(t *testing.T) {
	for n := range 20 {
		for m := range 20 {
			if m != n {
				expectSum(t, known24[:n], others24[:m], nil, api.ErrArg)
			}
		}
	}
	expectSum(t, nil, known24, nil, api.ErrArg)
	expectSum(t, known24, nil, nil, api.ErrArg)
	expectSum(t, make([]int, 1<<16), nil, nil, api.ErrArg)
	expectSum(t, make([]int, 1<<16+1), make([]int, 1), nil, api.ErrArg)
}

func TestKnownRatios(t *testing.T) {
	for _, x := range scaled24 {
		expectScale(t, known24, x.num, x.den, x.values, api.OK)
		for i, v := range known24 {
			expectScale(t, []int{v}, x.num, x.den, x.values[i:i+1], api.OK)
		}
	}
}

func TestScale(t *testing.T) {
	l := all()
	for num := range 140 {
		for den := 1; den <= 140; den++ {
			want := mapped(l, func(v int) int {
				q := min(max(v, -v)*num/den, 127)
				if v < 0 {
					return -q
				}
				return q
			})
			expectScale(t, l, num, den, want, api.OK)
		}
	}
}

func TestScaleByGreatRatios(t *testing.T) {
	random := rand.New(rand.NewSource(2))
	scaled := func(num, den int) {
		t.Helper()
		expectScale(t, all(), num, den, mapped(all(), func(v int) int { return quotient(v, num, den) }), api.OK)
	}
	for _, num := range someNumerators {
		for _, den := range someDenominators {
			scaled(num, den)
		}
	}
	for range 300 {
		den := 1 + random.Intn(1<<30)
		scaled(random.Intn(1<<30+1), den)
		// Where the products lie closely about the multiples of the denominator.
		scaled(den/127, den)
		scaled(den/127+1, den)
		scaled(max(den-1, 1), den)
		scaled(den, max(den-1, 1))
	}
}

func TestScaleByNoRatio(t *testing.T) {
	for _, l := range [][]int{nil, {0}, {5}, known24} {
		for _, num := range noNumerators {
			for _, den := range slices.Concat(someDenominators, noDenominators) {
				expectScale(t, l, num, den, nil, api.ErrArg)
			}
		}
		for _, den := range noDenominators {
			for _, num := range someNumerators {
				expectScale(t, l, num, den, nil, api.ErrArg)
			}
		}
	}
}

// P11.3

func TestHard(t *testing.T) {
	expectHard(t, known24, digits(decisions24), api.OK)
	for _, v := range all() {
		expectHard(t, []int{v}, hard([]int{v}), api.OK)
	}
	expectHard(t, all(), append(bytes.Repeat([]byte{1}, 127), make([]byte, 128)...), api.OK)
	expectHard(t, []int{0}, []byte{0}, api.OK)
}

func TestIdeal(t *testing.T) {
	for m := 0; m <= 127; m++ {
		expectIdeal(t, []byte{0, 1, 1, 0, 1}, m, []int{m, -m, -m, m, -m}, api.OK)
		expectIdeal(t, []byte{0}, m, []int{m}, api.OK)
		expectIdeal(t, []byte{1}, m, []int{-m}, api.OK)
		expectIdeal(t, nil, m, nil, api.OK)
		expectIdeal(t, []byte{}, m, nil, api.OK)
	}
	random := rand.New(rand.NewSource(3))
	for n := range 200 {
		bits := randomBits(random, n)
		m := random.Intn(128)
		want := make([]int, n)
		for i, bit := range bits {
			want[i] = m
			if bit == 1 {
				want[i] = -m
			}
		}
		expectIdeal(t, bits, m, want, api.OK)
	}
}

func TestIdealOfNoMagnitude(t *testing.T) {
	for _, m := range noMagnitudes {
		for _, bits := range [][]byte{nil, {}, {0}, {1}, digits(bits24)} {
			expectIdeal(t, bits, m, nil, api.ErrArg)
		}
	}
}

// TestNoBits has every element that is no bit, at every place.
func TestNoBits(t *testing.T) {
	bits := digits(bits24)
	for element := 2; element <= 255; element++ {
		for i := range bits {
			expectIdeal(t, with(bits, i, byte(element)), element%128, nil, api.ErrBit)
			expectCompare(t, known24, with(bits, i, byte(element)), 0, 0, api.ErrBit)
			// An unknown element's bit counts, too.
			expectCompare(t, make([]int, 24), with(bits, i, byte(element)), 0, 0, api.ErrBit)
		}
		expectIdeal(t, []byte{byte(element)}, 0, nil, api.ErrBit)
		expectCompare(t, []int{0}, []byte{byte(element)}, 0, 0, api.ErrBit)
	}
}

// P11.4

func TestCompare(t *testing.T) {
	expectCompare(t, known24, digits(bits24), wrong24, unknown24, api.OK)
	expectCompare(t, nil, nil, 0, 0, api.OK)
	expectCompare(t, []int{}, []byte{}, 0, 0, api.OK)
	for _, v := range all() {
		for bit := range 2 {
			wrong, unknown := compared([]int{v}, []byte{byte(bit)})
			expectCompare(t, []int{v}, []byte{byte(bit)}, wrong, unknown, api.OK)
		}
	}
	expectCompare(t, all(), make([]byte, 255), 127, 1, api.OK)
	expectCompare(t, all(), bytes.Repeat([]byte{1}, 255), 127, 1, api.OK)
	random := rand.New(rand.NewSource(4))
	for n := range 300 {
		l, bits := randomSoft(random, n, 1), randomBits(random, n)
		wrong, unknown := compared(l, bits)
		expectCompare(t, l, bits, wrong, unknown, api.OK)
		expectCompare(t, l, hard(l), 0, unknown, api.OK)
		expectCompare(t, make([]int, n), bits, 0, n, api.OK)
	}
}

func TestCompareOfOtherLengths(t *testing.T) {
	bits := digits(bits24)
	for n := range 20 {
		for m := range 20 {
			if m != n {
				expectCompare(t, known24[:n], bits[:m], 0, 0, api.ErrArg)
			}
		}
	}
	expectCompare(t, nil, bits, 0, 0, api.ErrArg)
	expectCompare(t, known24, nil, 0, 0, api.ErrArg)
	expectCompare(t, make([]int, 1<<16), nil, 0, 0, api.ErrArg)
	expectCompare(t, make([]int, 1), make([]byte, 1<<16+1), 0, 0, api.ErrArg)
}

func TestLeast(t *testing.T) {
	for _, v := range all() {
		expectLeast(t, []int{v}, 0, api.OK)
		for _, w := range all() {
			expectLeast(t, []int{v, w}, weakest([]int{v, w}), api.OK)
			expectLeast(t, []int{127, v, -127, w, 127}, weakest([]int{127, v, -127, w, 127}), api.OK)
		}
	}
	expectLeast(t, known24, 2, api.OK)
	expectLeast(t, all(), 127, api.OK)
	random := rand.New(rand.NewSource(5))
	for n := 1; n < 300; n++ {
		l := randomSoft(random, n, 100)
		expectLeast(t, l, weakest(l), api.OK)
	}
}

// TestTheFirstOfTheLeast has several elements with the least absolute value, of both signs.
func TestTheFirstOfTheLeast(t *testing.T) {
	for magnitude := range 127 {
		for i := range 10 {
			for j := range 10 {
				for _, sign := range []int{1, -1} {
					l := slices.Repeat([]int{127, -127}, 5)
					l[i], l[j] = magnitude*sign, -magnitude*sign
					expectLeast(t, l, min(i, j), api.OK)
				}
			}
		}
	}
}

func TestLeastOfNothing(t *testing.T) {
	expectLeast(t, nil, 0, api.ErrArg)
	expectLeast(t, []int{}, 0, api.ErrArg)
	expectLeast(t, known24[:0], 0, api.ErrArg)
}

// P11.2 to P11.5

// TestSlices calls every function with slices of many lengths, the empty one among them.
func TestSlices(t *testing.T) {
	random := rand.New(rand.NewSource(6))
	expectResults(t, nil, nil)
	expectResults(t, all(), randomBits(random, 255))
	for n := range 40 {
		expectResults(t, randomSoft(random, n, 2), randomBits(random, n))
		expectResults(t, make([]int, n), randomBits(random, n))
	}
	expectResults(t, slices.Repeat([]int{127, -127}, 50), randomBits(random, 100))
}

// TestNoSoftValues has integers that are no soft value, at every place and beside each other.
func TestNoSoftValues(t *testing.T) {
	for _, v := range noValues {
		for i := range known24 {
			expectNoSlice(t, with(known24, i, v))
		}
		expectNoSlice(t, []int{v})
		expectNoSlice(t, []int{v, v})
		expectNoSlice(t, with(make([]int, 1000), 999, v))
		for _, w := range noValues {
			expectNoSlice(t, []int{0, v, 5, w})
		}
	}
	for v := 128; v < 600; v++ {
		expectNoSlice(t, []int{1, v})
		expectNoSlice(t, []int{-v, 1})
	}
}

// TestLongSlices has as many elements as the transmitted bits of a great transport block.
func TestLongSlices(t *testing.T) {
	random := rand.New(rand.NewSource(7))
	const n = 300000
	bits := randomBits(random, n)
	a, e := soft.Ideal(bits, 50)
	if e != api.OK || len(a) != n {
		t.Fatalf("Ideal of %d bits: %d elements, error %v", n, len(a), e)
	}
	a[n-1] = 0
	expectCompare(t, a, bits, 0, 1, api.OK)
	expectLeast(t, a, n-1, api.OK)
	expectSum(t, a, a, mapped(a, func(v int) int { return 2 * v }), api.OK)
	expectScale(t, a, 5, 2, mapped(a, func(v int) int { return v / 50 * 125 }), api.OK)
	expectHard(t, a, with(bits, n-1, 0), api.OK)
	if got := take(soft.Signs(a), -1); len(got) != n-1 || got[n-2] != (sign{n - 2, bits[n-2]}) {
		t.Errorf("Signs yields %d pairs, or not the last one", len(got))
	}
	expectNoSlice(t, with(a, n-1, 128))
}

// P11.5

func TestSigns(t *testing.T) {
	expectSigns(t, soft.Signs([]int{0, -3, 4}), []sign{{1, 1}, {2, 0}})
	expectSigns(t, soft.Signs([]int{0, 0, 0}), nil)
	expectSigns(t, soft.Signs(nil), nil)
	expectSigns(t, soft.Signs([]int{}), nil)
	for _, v := range all() {
		expectSigns(t, soft.Signs([]int{v, 0, v}), signs([]int{v, 0, v}))
	}
	random := rand.New(rand.NewSource(8))
	for n := range 200 {
		l := randomSoft(random, n, 1)
		expectSigns(t, soft.Signs(l), signs(l))
	}
}

// TestSignsAreLeftEarly leaves one iterator after every number of pairs and uses it again.
func TestSignsAreLeftEarly(t *testing.T) {
	for _, l := range [][]int{nil, {0}, {-1}, {0, 3}, known24, all()} {
		pairs, want := soft.Signs(l), signs(l)
		for n := range len(want) + 2 {
			if got := take(pairs, n); !slices.Equal(got, want[:min(n, len(want))]) {
				t.Errorf("Signs of %v, left after %d pairs: %v", brief(l), n, brief(got))
			}
		}
		expectSigns(t, pairs, want)
		expectSigns(t, pairs, want)
	}
}

// TestSignsAreNotYieldedAfterTheEnd counts the calls of a function that wants only some pairs.
func TestSignsAreNotYieldedAfterTheEnd(t *testing.T) {
	for wanted := 1; wanted <= 23; wanted++ {
		calls := 0
		soft.Signs(known24)(func(int, byte) bool {
			calls++
			return calls < wanted
		})
		if calls != wanted {
			t.Errorf("Signs calls a function %d times that wants %d pairs", calls, wanted)
		}
	}
}

func TestSignsWithinSigns(t *testing.T) {
	l := []int{5, 0, -7, 1}
	pairs, want := soft.Signs(l), signs(l)
	var outer []sign
	for i, bit := range pairs {
		outer = append(outer, sign{i, bit})
		expectSigns(t, pairs, want)
		take(pairs, 1)
	}
	if !slices.Equal(outer, want) {
		t.Errorf("Signs around Signs yields %v; want %v", outer, want)
	}
}

// TestSignsOfTheTimeOfTheCall changes the elements after the call, and within the loop.
func TestSignsOfTheTimeOfTheCall(t *testing.T) {
	for _, v := range []int{0, 1, -1, 127, 128, math.MinInt} {
		l := slices.Clone(known24)
		pairs := soft.Signs(l)
		overwrite(l, v)
		expectSigns(t, pairs, signs(known24))

		l = slices.Clone(known24)
		pairs = soft.Signs(l)
		var got []sign
		for i, bit := range pairs {
			got = append(got, sign{i, bit})
			overwrite(l, v)
		}
		if !slices.Equal(got, signs(known24)) {
			t.Errorf("Signs yields %v where its loop changes the elements to %d", brief(got), v)
		}
		expectSigns(t, pairs, signs(known24))
	}
}

// TestSignsOfNoSlice makes the elements soft values after the call, which comes too late.
func TestSignsOfNoSlice(t *testing.T) {
	for _, v := range noValues {
		for i := range known24 {
			l := with(known24, i, v)
			pairs := soft.Signs(l)
			expectSigns(t, pairs, nil)
			copy(l, known24)
			expectSigns(t, pairs, nil)
			expectSigns(t, soft.Signs(l), signs(known24))
		}
	}
}

// The order of the errors

func TestErrArgBeforeErrBit(t *testing.T) {
	for _, element := range []byte{2, 3, 128, 255} {
		for _, m := range noMagnitudes {
			expectIdeal(t, []byte{element}, m, nil, api.ErrArg)
			expectIdeal(t, []byte{0, 1, element}, m, nil, api.ErrArg)
			expectIdeal(t, []byte{element, 1, 0}, m, nil, api.ErrArg)
		}
		for _, v := range noValues {
			expectCompare(t, []int{v}, []byte{element}, 0, 0, api.ErrArg)
			expectCompare(t, []int{0, 1, v}, []byte{element, 0, 0}, 0, 0, api.ErrArg)
			expectCompare(t, []int{v, 1, 0}, []byte{0, 0, element}, 0, 0, api.ErrArg)
		}
		expectCompare(t, []int{1}, []byte{element, element}, 0, 0, api.ErrArg)
		expectCompare(t, []int{1, 1}, []byte{element}, 0, 0, api.ErrArg)
		expectCompare(t, nil, []byte{element}, 0, 0, api.ErrArg)
		expectCompare(t, []int{128}, []byte{0, element}, 0, 0, api.ErrArg)
	}
}

// P11.6

func TestAddIsCommutative(t *testing.T) {
	for v := -300; v <= 300; v++ {
		for w := -300; w <= v; w++ {
			if soft.Add(v, w) != soft.Add(w, v) {
				t.Errorf("Add(%d, %d) and Add(%d, %d) differ", v, w, w, v)
			}
		}
	}
	for _, v := range extremes {
		for _, w := range extremes {
			if soft.Add(v, w) != soft.Add(w, v) {
				t.Errorf("Add(%d, %d) and Add(%d, %d) differ", v, w, w, v)
			}
		}
	}
}

func TestAddIsMonotonic(t *testing.T) {
	increasing := slices.Concat(all(), noValues)
	slices.Sort(increasing)
	for _, v := range increasing {
		for i, w := range increasing[1:] {
			if soft.Add(v, w) < soft.Add(v, increasing[i]) || soft.Add(w, v) < soft.Add(increasing[i], v) {
				t.Errorf("Add of %d and %d is less than that of %d and %d", v, w, v, increasing[i])
			}
		}
	}
}

func TestZeroIsNeutral(t *testing.T) {
	for _, v := range all() {
		expectAdd(t, v, 0, v)
		expectAdd(t, 0, v, v)
	}
	expectSum(t, all(), make([]int, 255), all(), api.OK)
	expectSum(t, make([]int, 255), all(), all(), api.OK)
}

func TestAddOfTheSameSignIsAssociative(t *testing.T) {
	for a := range 128 {
		for b := range 128 {
			for c := range 128 {
				for _, s := range []int{1, -1} {
					if left, right := soft.Add(soft.Add(s*a, s*b), s*c), soft.Add(s*a, soft.Add(s*b, s*c)); left != right {
						t.Fatalf("the sums of %d, %d and %d are %d and %d", s*a, s*b, s*c, left, right)
					}
				}
			}
		}
	}
}

func TestAddIsNotAssociative(t *testing.T) {
	if left, right := soft.Add(soft.Add(100, 100), -100), soft.Add(100, soft.Add(100, -100)); left != 27 || right != 100 {
		t.Errorf("the sums of 100, 100 and -100 are %d and %d; want 27 and 100", left, right)
	}
}

// ideal returns ideal soft values.
func ideal(t *testing.T, bits []byte, m int) []int {
	t.Helper()
	l, e := soft.Ideal(bits, m)
	if e != api.OK || len(l) != len(bits) {
		t.Fatalf("Ideal of %d bits, %d: %d elements, error %v", len(bits), m, len(l), e)
	}
	return l
}

func TestIdealValuesAreTheBits(t *testing.T) {
	random := rand.New(rand.NewSource(9))
	for m := 1; m <= 127; m++ {
		for _, n := range []int{0, 1, 2, 50} {
			bits := randomBits(random, n)
			l := ideal(t, bits, m)
			expectValid(t, l, true)
			expectHard(t, l, bits, api.OK)
			expectCompare(t, l, bits, 0, 0, api.OK)
		}
	}
}

func TestIdealValuesMakeNothingWorse(t *testing.T) {
	random := rand.New(rand.NewSource(10))
	for m := 0; m <= 127; m++ {
		for bit := range 2 {
			bits := bytes.Repeat([]byte{byte(bit)}, 255)
			added, e := soft.Sum(all(), ideal(t, bits, m))
			if e != api.OK {
				t.Fatal(m, e)
			}
			wrong, unknown := 127-m, 1
			expectCompare(t, added, bits, wrong, unknown, api.OK)
		}
		l, bits := randomSoft(random, 100, 3), randomBits(random, 100)
		before, _, _ := soft.Compare(l, bits)
		added, _ := soft.Sum(l, ideal(t, bits, m))
		after, _, e := soft.Compare(added, bits)
		if after > before || e != api.OK {
			t.Errorf("%d elements are wrong after ideal values of the magnitude %d, and %d before", after, m, before)
		}
	}
}

// P1 and the document's section Rules

// overwrite changes every element of a slice, and those for which it has room.
func overwrite[E any](l []E, v E) {
	for i := range l[:cap(l)] {
		l[:cap(l)][i] = v
	}
}

// callAll calls every function with slices and integers, whatever they are.
func callAll(a, b []int, bits []byte, m, num, den int) {
	soft.Valid(a)
	soft.Sum(a, b)
	soft.Hard(a)
	soft.Ideal(bits, m)
	soft.Scale(a, num, den)
	soft.Compare(a, bits)
	soft.Least(a)
	take(soft.Signs(a), -1)
	take(soft.Signs(b), 2)
}

// TestArgumentsAreNotModified looks at the elements around the slices, too, and at slices with errors.
func TestArgumentsAreNotModified(t *testing.T) {
	random := rand.New(rand.NewSource(11))
	for _, v := range []int{0, 5, 128, math.MinInt} {
		for _, element := range []byte{0, 1, 2} {
			a, b, bits := randomSoft(random, 100, 2), randomSoft(random, 100, 2), randomBits(random, 100)
			a[20], bits[40] = v, element
			keptA, keptB, keptBits := slices.Clone(a), slices.Clone(b), slices.Clone(bits)
			for _, end := range []int{10, 50, 90} {
				callAll(a[10:end], b[10:end], bits[10:end], 9, 3, 4)
				callAll(a[10:end], b[10:50], bits[10:50], 128, 3, 0)
			}
			if !slices.Equal(a, keptA) || !slices.Equal(b, keptB) || !bytes.Equal(bits, keptBits) {
				t.Error("a call changes a slice, or elements beside it")
			}
		}
	}
}

func TestResultsShareNoMemory(t *testing.T) {
	a, b, bits := slices.Clone(known24), slices.Clone(others24), digits(bits24)
	want := []int{127, -127, 0, 1, -1, 72, -8, -12, 3, 91, 23, -79, -80, 78, 4, -6, 34, 30, 76, -80, -103, -13, -50, -91}
	calls := map[string]func() []int{
		"Sum":         func() []int { l, _ := soft.Sum(a, b); return l },
		"Sum of 0":    func() []int { l, _ := soft.Sum(a, make([]int, 24)); return l },
		"Ideal":       func() []int { l, _ := soft.Ideal(bits, 7); return l },
		"Scale":       func() []int { l, _ := soft.Scale(a, 2, 3); return l },
		"Scale by 1":  func() []int { l, _ := soft.Scale(a, 1, 1); return l },
		"Scale by 0":  func() []int { l, _ := soft.Scale(a, 0, 1); return l },
		"Sum of both": func() []int { l, _ := soft.Sum(a, a); return l },
	}
	for name, call := range calls {
		first, second := call(), call()
		kept := slices.Clone(second)
		overwrite(first, 99)
		if !slices.Equal(a, want) || !slices.Equal(b, others24) || !bytes.Equal(bits, digits(bits24)) || !slices.Equal(second, kept) || !slices.Equal(call(), kept) {
			t.Errorf("the result of %s shares memory", name)
		}
		overwrite(a, 55)
		overwrite(b, 55)
		overwrite(bits, 0)
		if !slices.Equal(second, kept) {
			t.Errorf("the result of %s shares memory with an argument", name)
		}
		copy(a, known24)
		copy(b, others24)
		copy(bits, digits(bits24))
	}
	first, _ := soft.Hard(a)
	second, _ := soft.Hard(a)
	overwrite(first, 7)
	if !bytes.Equal(second, digits(decisions24)) {
		t.Error("the results of Hard share memory")
	}
	expectHard(t, a, digits(decisions24), api.OK)
}

// TestCapacityDoesNotCount has more elements behind the ends of the slices.
func TestCapacityDoesNotCount(t *testing.T) {
	a := append(slices.Clone(known24), 5, 128, math.MaxInt)
	b := append(slices.Clone(others24), 6, -128, math.MinInt)
	bits := append(digits(bits24), 1, 2, 255)
	expectSum(t, a[:24], b[:24], sums24, api.OK)
	expectSum(t, a[:0], b[:0], nil, api.OK)
	expectSum(t, a[:24], b[:23], nil, api.ErrArg)
	expectSum(t, a[:23], b[:24], nil, api.ErrArg)
	expectHard(t, a[:24], digits(decisions24), api.OK)
	expectIdeal(t, bits[:3], 5, []int{5, 5, 5}, api.OK)
	expectCompare(t, a[:24], bits[:24], wrong24, unknown24, api.OK)
	expectCompare(t, a[:24], bits[:25], 0, 0, api.ErrArg)
	expectCompare(t, a[:25], bits[:24], 0, 0, api.ErrArg)
	expectLeast(t, a[:2], 0, api.OK)
	expectLeast(t, a[:0], 0, api.ErrArg)
	expectScale(t, a[:24], 1, 1, known24, api.OK)
	expectSigns(t, soft.Signs(a[:24]), signs(known24))
	expectValid(t, a[:25], true)
	expectValid(t, a[:26], false)
}

// TestTheSameSliceTwice passes one slice as both arguments, and slices that overlap.
func TestTheSameSliceTwice(t *testing.T) {
	l := slices.Clone(known24)
	expectSum(t, l, l, mapped(known24, func(v int) int { return min(max(2*v, -127), 127) }), api.OK)
	want := make([]int, 23)
	for i := range want {
		want[i] = plus(known24[i], known24[i+1])
	}
	expectSum(t, l[:23], l[1:], want, api.OK)
	expectSum(t, l[1:], l[:23], want, api.OK)
}

// TestCallsDoNotDependOnEarlierOnes calls again after calls with other arguments and after errors.
func TestCallsDoNotDependOnEarlierOnes(t *testing.T) {
	random := rand.New(rand.NewSource(12))
	for _, v := range slices.Concat(noValues, all(), noValues) {
		l := append(randomSoft(random, random.Intn(30), 3), v)
		bits := append(randomBits(random, len(l)-1), byte(v))
		callAll(l, known24, bits, v, v, -v)
		callAll(l, l, bits, 127-v, 1<<30, v)
		soft.Clamp(v)
		soft.Add(v, v)
		expectClamp(t, -128, -127)
		expectAdd(t, -500, 127, 0)
		expectValid(t, known24, true)
		expectSum(t, known24, others24, sums24, api.OK)
		expectHard(t, known24, digits(decisions24), api.OK)
		expectIdeal(t, []byte{0, 1}, 9, []int{9, -9}, api.OK)
		expectScale(t, known24, scaled24[2].num, scaled24[2].den, scaled24[2].values, api.OK)
		expectCompare(t, known24, digits(bits24), wrong24, unknown24, api.OK)
		expectLeast(t, known24, 2, api.OK)
		expectSigns(t, soft.Signs(known24), signs(known24))
	}
}
