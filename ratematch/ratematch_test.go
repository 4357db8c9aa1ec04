package ratematch_test

import (
	"bytes"
	"math"
	"math/rand"
	"slices"
	"testing"

	"userplane/api"
	"userplane/ratematch"
)

// permutation is the column permutation of layer 9, as its chapter writes it.
var permutation = []int{0, 16, 8, 24, 4, 20, 12, 28, 2, 18, 10, 26, 6, 22, 14, 30, 1, 17, 9, 25, 5, 21, 13, 29, 3, 19, 11, 27, 7, 23, 15, 31}

// buffers are circular buffers, from a computation of its own that uses nothing of this program.
var buffers = []struct {
	k, f, limit int
	positions   []int
}{
	{40, 0, 3, []int{-1, 12, -1}},
	{40, 5, 1000, []int{
		-1, 12, -1, 28, -1, 20, -1, 36, -1, 16, -1, 32, -1, 24, 8, 40, -1, 14, -1, 30, -1, 22, 6, 38, -1, 18, -1, 34, -1, 26, 10, 42,
		-1, 13, -1, 29, -1, 21, 5, 37, -1, 17, -1, 33, -1, 25, 9, 41, -1, 15, -1, 31, -1, 23, 7, 39, -1, 19, -1, 35, -1, 27, 11, 43,
		-1, -1, 56, 101, -1, -1, 72, 117, -1, -1, 64, 109, -1, 93, 80, 125, -1, -1, 60, 105, -1, 89, 76, 121, -1, -1, 68, 113, 52, 97, 84, 129,
		-1, -1, 58, 103, -1, -1, 74, 119, -1, -1, 66, 111, 50, 95, 82, 127, -1, -1, 62, 107, -1, 91, 78, 123, -1, -1, 70, 115, 54, 99, 86, 131,
		-1, -1, 57, 102, -1, -1, 73, 118, -1, -1, 65, 110, 49, 94, 81, 126, -1, -1, 61, 106, -1, 90, 77, 122, -1, -1, 69, 114, 53, 98, 85, 130,
		-1, -1, 59, 104, -1, 88, 75, 120, -1, -1, 67, 112, 51, 96, 83, 128, -1, -1, 63, 108, -1, 92, 79, 124, -1, -1, 71, 116, 55, 100, 87, -1,
	}},
	{60, 2, 70, []int{
		-1, 32, 16, 48, 8, 40, 24, 56, 4, 36, 20, 52, 12, 44, 28, 60, 2, 34, 18, 50, 10, 42, 26, 58, 6, 38, 22, 54, 14, 46, 30, 62,
		-1, 33, 17, 49, 9, 41, 25, 57, 5, 37, 21, 53, 13, 45, 29, 61, 3, 35, 19, 51, 11, 43, 27, 59, 7, 39, 23, 55, 15, 47, 31, 63,
		-1, 129, 96, 161, 80, 145,
	}},
}

// bufferSums are K, F and limits with the number of elements and of usable elements and a sum over the circular buffer, from the same computation.
var bufferSums = [][6]int{
	{40, 0, 1000, 192, 132, 70511},
	{40, 8, 1000, 192, 116, 18983},
	{40, 39, 1000, 192, 54, 726612},
	{41, 3, 192, 192, 129, 98645},
	{60, 59, 288, 192, 74, 453335},
	{61, 60, 100, 100, 6, 38810},
	{91, 17, 200, 200, 171, 997609},
	{92, 17, 300, 288, 254, 83808},
	{512, 100, 1000, 1000, 803, 93575},
	{1024, 63, 3096, 3096, 2889, 21469},
	{3072, 15, 5000, 5000, 4934, 454498},
	{6144, 0, 1048576, 18528, 18444, 925690},
	{6144, 6143, 18528, 18528, 6158, 266039},
	{6144, 6143, 6176, 6176, 5, 184447},
	{6144, 1000, 10000, 10000, 8641, 748134},
	{6143, 1, 18527, 18527, 18439, 926691},
}

// starts are K and limits with the starts of the four redundancy versions, from the same computation.
var starts = []struct {
	k, limit int
	starts   [4]int
}{
	{40, 1, [4]int{0, 0, 0, 0}},
	{40, 2, [4]int{0, 0, 0, 0}},
	{40, 3, [4]int{1, 2, 0, 1}},
	{40, 16, [4]int{4, 8, 12, 0}},
	{40, 17, [4]int{4, 12, 3, 11}},
	{40, 63, [4]int{4, 20, 36, 52}},
	{40, 64, [4]int{4, 20, 36, 52}},
	{40, 65, [4]int{4, 24, 44, 64}},
	{40, 191, [4]int{4, 52, 100, 148}},
	{40, 192, [4]int{4, 52, 100, 148}},
	{40, 193, [4]int{4, 52, 100, 148}},
	{60, 192, [4]int{4, 52, 100, 148}},
	{61, 288, [4]int{6, 78, 150, 222}},
	{61, 200, [4]int{6, 60, 114, 168}},
	{512, 1632, [4]int{34, 442, 850, 1258}},
	{1024, 2000, [4]int{66, 594, 1122, 1650}},
	{6140, 18432, [4]int{384, 4992, 9600, 14208}},
	{6144, 18528, [4]int{386, 5018, 9650, 14282}},
	{6144, 18527, [4]int{386, 5018, 9650, 14282}},
	{6144, 1, [4]int{0, 0, 0, 0}},
	{6144, 10000, [4]int{386, 3088, 5790, 8492}},
	{6144, 1 << 40, [4]int{386, 5018, 9650, 14282}},
}

// arguments are those of a selection.
type arguments struct{ k, f, limit, rv, e int }

// selections are arguments with their positions, from the same computation.
var selections = []struct {
	arguments
	positions []int
}{
	{arguments{40, 0, 192, 0, 40}, []int{20, 4, 36, 16, 0, 32, 24, 8, 40, 14, 30, 22, 6, 38, 18, 2, 34, 26, 10, 42, 13, 29, 21, 5, 37, 17, 1, 33, 25, 9, 41, 15, 31, 23, 7, 39, 19, 3, 35, 27}},
	{arguments{40, 0, 192, 1, 40}, []int{23, 7, 39, 19, 3, 35, 27, 11, 43, 56, 101, 72, 117, 64, 109, 48, 93, 80, 125, 60, 105, 44, 89, 76, 121, 68, 113, 52, 97, 84, 129, 58, 103, 74, 119, 66, 111, 50, 95, 82}},
	{arguments{40, 7, 192, 2, 40}, []int{74, 119, 66, 111, 95, 82, 127, 62, 107, 91, 78, 123, 70, 115, 54, 99, 86, 131, 57, 102, 73, 118, 65, 110, 94, 81, 126, 61, 106, 90, 77, 122, 69, 114, 53, 98, 85, 130, 59, 104}},
	{arguments{40, 0, 1000, 3, 40}, []int{45, 90, 77, 122, 69, 114, 53, 98, 85, 130, 59, 104, 88, 75, 120, 67, 112, 51, 96, 83, 128, 63, 108, 47, 92, 79, 124, 71, 116, 55, 100, 87, 12, 28, 20, 4, 36, 16, 0, 32}},
	{arguments{40, 39, 20, 3, 12}, []int{40, 40, 40, 40, 40, 40, 40, 40, 40, 40, 40, 40}},
	{arguments{60, 0, 1, 0, 3}, []int{0, 0, 0}},
}

// selectionSums are arguments with a sum over their positions, from the same computation.
var selectionSums = []struct {
	arguments
	sum int
}{
	{arguments{40, 0, 192, 0, 300}, 837178},
	{arguments{40, 13, 100, 1, 132}, 511577},
	{arguments{60, 3, 192, 2, 1000}, 70830},
	{arguments{61, 60, 288, 3, 131072}, 524937},
	{arguments{512, 64, 1600, 1, 2000}, 962964},
	{arguments{1024, 63, 2000, 2, 10000}, 234029},
	{arguments{6144, 0, 18528, 0, 18444}, 506707},
	{arguments{6144, 6143, 18528, 1, 20000}, 177834},
	{arguments{6144, 15, 6177, 3, 131072}, 467234},
	{arguments{6143, 0, 17000, 2, 18528}, 478658},
}

// word40 is a code word of a block of 40 bits, and matched40 are some of its selections, from the same computation.
const word40 = "001100110011100010000101111110100010111111101010100110011010100111000111001000001110011101111011011111011010011111100011111010111110"

var matched40 = []struct {
	f, limit, rv int
	bits         string
}{
	{0, 192, 0, "00110010101011011111001010001010011101011011001110101011010111011111010111001100100110000111011101010111011101001011001100101101111100110010"},
	{3, 150, 1, "101001110101101100111010101010111011111010111001001001100001"},
	{20, 192, 2, "110111101001011000111111110111111100101001010110111010111011"},
	{39, 18, 3, "11111111111111111111"},
}

// Integers that are no K, no limit, no redundancy version and no number of selected bits, some of them equal to one if they were cut.
var (
	noBlocks   = []int{0, 1, 32, 38, 39, 6145, 6146, 6148, 12288, 1<<16 + 40, 1<<32 + 40, math.MaxInt32, math.MaxInt - 4, math.MaxInt - 3, math.MaxInt, -1, -4, -5, -40, -6144, math.MinInt32, math.MinInt + 40, math.MinInt + 1, math.MinInt}
	noLimits   = []int{0, -1, -2, -192, -18528, math.MinInt32, math.MinInt + 192, math.MinInt + 1, math.MinInt}
	noVersions = []int{4, 5, 7, 8, 255, 256, 257, 1<<16 + 1, 1<<32 + 1, math.MaxInt32, math.MaxInt, -1, -2, -4, -255, math.MinInt32, math.MinInt + 1, math.MinInt}
	noCounts   = []int{-1, -2, -132, 1<<17 + 1, 1<<17 + 2, 1 << 18, 1 << 32, 1<<32 + 1, math.MaxInt32, math.MaxInt, math.MinInt32, math.MinInt + 1, math.MinInt}
)

// noFillers returns integers that are no F for a K.
func noFillers(k int) []int {
	return []int{k, k + 1, k + 4, 2 * k, 1<<16 + k, 1 << 32, math.MaxInt32, math.MaxInt - k, math.MaxInt, -1, -2, -k, math.MinInt32, math.MinInt + 1, math.MinInt}
}

// some are numbers of bits of a block with and without dummy elements, the least and the greatest among them.
var some = []int{40, 41, 59, 60, 61, 92, 93, 512, 1024, 1028, 3072, 6140, 6141, 6143, 6144}

// fillers returns some numbers of filler bits of a block of k bits, the least and the greatest among them.
func fillers(k int) []int {
	return []int{0, 1, 2, k / 2, k - 2, k - 1}
}

// limits returns some limits for a full buffer, the least and the greatest sensible ones among them.
func limits(full []int) []int {
	n := len(full)
	return []int{1, 2, 3, n / 12, n / 3, n/3 + 1, n / 2, n - 1, n, n + 1, 1 << 20, math.MaxInt}
}

// interleaved returns the positions of stream s of a code word, interleaved as layer 9's chapter says, with -1 for a dummy element.
func interleaved(k, s int) []int {
	matrix := make([]int, 0, k+35)
	for (len(matrix)+k+4)%32 != 0 {
		matrix = append(matrix, -1)
	}
	for i := range k + 4 {
		matrix = append(matrix, s*(k+4)+i)
	}
	l := make([]int, 0, len(matrix))
	for _, column := range permutation {
		for row := 0; row < len(matrix); row += 32 {
			m := row + column
			if s == 2 {
				m++
			}
			l = append(l, matrix[m%len(matrix)])
		}
	}
	return l
}

// fullBuffer returns the positions of the full buffer by its definition, with -1 for an element that is not usable.
func fullBuffer(k, f int) []int {
	l := append(make([]int, 0, 3*(k+35)), interleaved(k, 0)...)
	first, second := interleaved(k, 1), interleaved(k, 2)
	for i := range first {
		l = append(l, first[i], second[i])
	}
	for i, position := range l {
		if position >= 0 && position <= f-1 || position >= k+4 && position <= k+4+f-1 {
			l[i] = -1
		}
	}
	return l
}

// begin returns the start of a redundancy version by its definition.
func begin(k, limit, rv int) int {
	rows := 0
	for 32*rows < k+4 {
		rows++
	}
	b := min(limit, 96*rows)
	eighths := 0
	for 8*rows*eighths < b {
		eighths++
	}
	return (rows * (2*eighths*rv + 2)) % b
}

// selected returns the positions of a selection by its definition: it reads the circular buffer again and again. Where the selection has no position, it returns ErrNone.
func selected(full []int, a arguments) ([]int, api.Errno) {
	circle := full[:min(a.limit, len(full))]
	if a.e > 0 && usable(circle) == 0 {
		return nil, api.ErrNone
	}
	l := make([]int, 0, a.e)
	for i := begin(a.k, a.limit, a.rv); len(l) < a.e; i++ {
		if position := circle[i%len(circle)]; position >= 0 {
			l = append(l, position)
		}
	}
	return l, api.OK
}

// usable counts the elements that are usable.
func usable(l []int) int {
	n := 0
	for _, position := range l {
		if position >= 0 {
			n++
		}
	}
	return n
}

// taken returns the elements at some positions.
func taken(word []byte, positions []int) []byte {
	l := make([]byte, 0, len(positions))
	for _, position := range positions {
		l = append(l, word[position])
	}
	return l
}

// sum returns a sum over positions that depends on their order.
func sum(l []int) int {
	s := 0
	for i, position := range l {
		s += (i + 1) * (position + 2)
	}
	return s % 1000003
}

func randomBits(random *rand.Rand, n int) []byte {
	b := make([]byte, n)
	for i := range b {
		b[i] = byte(random.Intn(2))
	}
	return b
}

// digits returns the elements that a string of digits shows.
func digits(s string) []byte {
	b := make([]byte, len(s))
	for i := range b {
		b[i] = s[i] - '0'
	}
	return b
}

// with returns a slice with another element at an index.
func with(l []byte, i int, element byte) []byte {
	c := slices.Clone(l)
	c[i] = element
	return c
}

func expectBuffer(t *testing.T, k, f, limit int, want []int, wantError api.Errno) {
	t.Helper()
	if got, e := ratematch.Buffer(k, f, limit); !slices.Equal(got, want) || e != wantError {
		t.Errorf("Buffer(%d, %d, %d): %d elements, error %v, or not as defined; want %d, error %v", k, f, limit, len(got), e, len(want), wantError)
	}
}

func expectUsable(t *testing.T, k, f, limit, want int, wantError api.Errno) {
	t.Helper()
	if got, e := ratematch.Usable(k, f, limit); got != want || e != wantError {
		t.Errorf("Usable(%d, %d, %d) = %d, %v; want %d, %v", k, f, limit, got, e, want, wantError)
	}
}

func expectStart(t *testing.T, k, limit, rv, want int, wantError api.Errno) {
	t.Helper()
	if got, e := ratematch.Start(k, limit, rv); got != want || e != wantError {
		t.Errorf("Start(%d, %d, %d) = %d, %v; want %d, %v", k, limit, rv, got, e, want, wantError)
	}
}

func expectPositions(t *testing.T, a arguments, want []int, wantError api.Errno) {
	t.Helper()
	if got, e := ratematch.Positions(a.k, a.f, a.limit, a.rv, a.e); !slices.Equal(got, want) || e != wantError {
		t.Errorf("Positions of %v: %d positions, error %v, or not as defined; want %d, error %v", a, len(got), e, len(want), wantError)
	}
}

// expectMatch does not look at the K of the arguments, which Match takes from the word.
func expectMatch(t *testing.T, word []byte, a arguments, want []byte, wantError api.Errno) {
	t.Helper()
	if got, e := ratematch.Match(word, a.f, a.limit, a.rv, a.e); !bytes.Equal(got, want) || e != wantError {
		t.Errorf("Match of %d elements, %v: %d bits, error %v, or not as defined; want %d, error %v", len(word), a, len(got), e, len(want), wantError)
	}
}

// expectSelection expects the positions of a selection of a full buffer, and the bits of a word at them.
func expectSelection(t *testing.T, full []int, word []byte, a arguments) {
	t.Helper()
	want, e := selected(full, a)
	expectPositions(t, a, want, e)
	expectMatch(t, word, a, taken(word, want), e)
}

func positions(t *testing.T, a arguments) []int {
	t.Helper()
	l, e := ratematch.Positions(a.k, a.f, a.limit, a.rv, a.e)
	if e != api.OK || len(l) != a.e {
		t.Fatalf("Positions of %v: %d positions, error %v", a, len(l), e)
	}
	return l
}

func TestExamples(t *testing.T) {
	expectStart(t, 40, 192, 0, 4, api.OK)
	expectStart(t, 40, 192, 1, 52, api.OK)
	expectStart(t, 40, 64, 1, 20, api.OK)
	expectUsable(t, 40, 0, 192, 132, api.OK)
	expectUsable(t, 40, 8, 1000, 116, api.OK)
	expectPositions(t, arguments{40, 0, 192, 0, 4}, []int{20, 4, 36, 16}, api.OK)
	expectPositions(t, arguments{40, 39, 3, 0, 1}, nil, api.ErrNone)
}

func TestConstants(t *testing.T) {
	if ratematch.MaxOut != 131072 {
		t.Errorf("MaxOut is %d", ratematch.MaxOut)
	}
}

// P10.1

func TestKnownBuffers(t *testing.T) {
	for _, x := range buffers {
		expectBuffer(t, x.k, x.f, x.limit, x.positions, api.OK)
		expectUsable(t, x.k, x.f, x.limit, usable(x.positions), api.OK)
	}
	for _, x := range bufferSums {
		l, e := ratematch.Buffer(x[0], x[1], x[2])
		if e != api.OK || len(l) != x[3] || sum(l) != x[5] {
			t.Errorf("Buffer(%d, %d, %d): %d elements, sum %d, error %v; want %d, sum %d", x[0], x[1], x[2], len(l), sum(l), e, x[3], x[5])
		}
		expectUsable(t, x[0], x[1], x[2], x[4], api.OK)
	}
}

// TestBuffersOfEveryBlock has another number of filler bits and another limit for each K.
func TestBuffersOfEveryBlock(t *testing.T) {
	random := rand.New(rand.NewSource(1))
	for k := 40; k <= 6144; k++ {
		f := k % 2 * random.Intn(k)
		full := fullBuffer(k, f)
		limit := 1 + random.Intn(2*len(full))
		expectBuffer(t, k, f, limit, full[:min(limit, len(full))], api.OK)
	}
}

func TestBuffersOfEveryLimit(t *testing.T) {
	for _, k := range []int{40, 60, 61} {
		for f := range k {
			full := fullBuffer(k, f)
			for limit := 1; limit <= len(full)+40; limit++ {
				want := full[:min(limit, len(full))]
				expectBuffer(t, k, f, limit, want, api.OK)
				expectUsable(t, k, f, limit, usable(want), api.OK)
			}
		}
	}
}

func TestBuffersAtTheLimits(t *testing.T) {
	for _, k := range some {
		for _, f := range fillers(k) {
			full := fullBuffer(k, f)
			for _, limit := range limits(full) {
				want := full[:min(limit, len(full))]
				expectBuffer(t, k, f, limit, want, api.OK)
				expectUsable(t, k, f, limit, usable(want), api.OK)
			}
		}
	}
}

// TestBuffersWithoutUsableElements has dummy elements or filler bits only, which is no error.
func TestBuffersWithoutUsableElements(t *testing.T) {
	expectBuffer(t, 40, 0, 1, []int{-1}, api.OK)
	expectUsable(t, 40, 0, 1, 0, api.OK)
	expectBuffer(t, 60, 1, 1, []int{-1}, api.OK)
	expectUsable(t, 60, 1, 1, 0, api.OK)
	expectBuffer(t, 60, 0, 1, []int{0}, api.OK)
	expectUsable(t, 60, 0, 1, 1, api.OK)
	expectUsable(t, 40, 39, 15, 0, api.OK)
	expectUsable(t, 40, 39, 16, 1, api.OK)
	expectUsable(t, 6144, 6143, 1543, 0, api.OK)
	expectUsable(t, 6144, 6143, 1544, 1, api.OK)
}

func TestNoBuffers(t *testing.T) {
	expectNone := func(k, f, limit int) {
		t.Helper()
		expectBuffer(t, k, f, limit, nil, api.ErrArg)
		expectUsable(t, k, f, limit, 0, api.ErrArg)
	}
	for k := -7000; k <= 13000; k++ {
		if k < 40 || k > 6144 {
			expectNone(k, 0, 192)
		}
	}
	for _, k := range noBlocks {
		for _, f := range []int{-1, 0, 1, 39, k - 1, k} {
			for _, limit := range []int{0, 1, 192, math.MaxInt} {
				expectNone(k, f, limit)
			}
		}
	}
	for _, k := range some {
		for _, f := range noFillers(k) {
			expectNone(k, f, 1)
			expectNone(k, f, 192)
			expectNone(k, f, math.MaxInt)
		}
		for _, limit := range noLimits {
			for _, f := range fillers(k) {
				expectNone(k, f, limit)
			}
		}
	}
}

// P10.2

func TestKnownStarts(t *testing.T) {
	for _, x := range starts {
		for rv, start := range x.starts {
			expectStart(t, x.k, x.limit, rv, start, api.OK)
		}
	}
}

func TestStartsOfEveryBlock(t *testing.T) {
	random := rand.New(rand.NewSource(2))
	for k := 40; k <= 6144; k++ {
		for rv := range 4 {
			for _, limit := range []int{1, 2, k, 2 * k, 3 * k, 3*k + 12, 1 + random.Intn(3*k), 1 << 20, math.MaxInt} {
				expectStart(t, k, limit, rv, begin(k, limit, rv), api.OK)
			}
		}
	}
}

func TestStartsOfEveryLimit(t *testing.T) {
	for _, k := range some {
		for limit := 1; limit <= 96*((k+35)/32)+10; limit++ {
			for rv := range 4 {
				expectStart(t, k, limit, rv, begin(k, limit, rv), api.OK)
			}
		}
	}
}

func TestNoStarts(t *testing.T) {
	for k := -7000; k <= 13000; k++ {
		if k < 40 || k > 6144 {
			expectStart(t, k, 192, 0, 0, api.ErrArg)
		}
	}
	for rv := -300; rv <= 300; rv++ {
		if rv < 0 || rv > 3 {
			expectStart(t, 40, 192, rv, 0, api.ErrArg)
		}
	}
	for rv := -1; rv <= 4; rv++ {
		for _, k := range noBlocks {
			expectStart(t, k, 0, rv, 0, api.ErrArg)
			expectStart(t, k, 192, rv, 0, api.ErrArg)
			expectStart(t, k, math.MaxInt, rv, 0, api.ErrArg)
		}
		for _, limit := range noLimits {
			for _, k := range some {
				expectStart(t, k, limit, rv, 0, api.ErrArg)
			}
		}
	}
	for _, rv := range noVersions {
		for _, k := range some {
			expectStart(t, k, 1, rv, 0, api.ErrArg)
			expectStart(t, k, 192, rv, 0, api.ErrArg)
			expectStart(t, k, math.MaxInt, rv, 0, api.ErrArg)
		}
	}
}

// P10.3

func TestKnownSelections(t *testing.T) {
	for _, x := range selections {
		for e := range x.positions {
			x.e = e
			expectPositions(t, x.arguments, x.positions[:e], api.OK)
		}
	}
	for _, x := range selectionSums {
		if l := positions(t, x.arguments); sum(l) != x.sum {
			t.Errorf("Positions of %v have the sum %d; want %d", x.arguments, sum(l), x.sum)
		}
	}
	for _, x := range matched40 {
		for e := range len(x.bits) + 1 {
			expectMatch(t, digits(word40), arguments{40, x.f, x.limit, x.rv, e}, digits(x.bits[:e]), api.OK)
		}
	}
}

func TestSelectionsOfEveryLimit(t *testing.T) {
	random := rand.New(rand.NewSource(3))
	for _, k := range []int{40, 60, 61} {
		word := randomBits(random, 3*(k+4))
		for f := range k {
			full := fullBuffer(k, f)
			for limit := 1; limit <= len(full)+4; limit++ {
				expectSelection(t, full, word, arguments{k, f, limit, random.Intn(4), random.Intn(300)})
			}
		}
	}
}

func TestSelectionsOfEveryNumberOfBits(t *testing.T) {
	random := rand.New(rand.NewSource(4))
	for _, f := range []int{0, 1, 17, 39} {
		full := fullBuffer(40, f)
		for _, limit := range []int{1, 2, 15, 16, 17, 64, 100, 191, 192, 1000} {
			word := randomBits(random, 132)
			for rv := range 4 {
				for e := range 290 {
					expectSelection(t, full, word, arguments{40, f, limit, rv, e})
				}
			}
		}
	}
}

// TestSelectionsOfManyBlocks has blocks with every number of dummy elements.
func TestSelectionsOfManyBlocks(t *testing.T) {
	random := rand.New(rand.NewSource(5))
	for k := 40; k <= 6144; k += 11 {
		f := random.Intn(k)
		full := fullBuffer(k, f)
		word := randomBits(random, 3*(k+4))
		expectSelection(t, full, word, arguments{k, f, 1 + random.Intn(len(full)+100), random.Intn(4), random.Intn(4 * k)})
		expectSelection(t, full, word, arguments{k, f, len(full), random.Intn(4), 3 * k})
	}
}

func TestSelectionsAtTheLimits(t *testing.T) {
	random := rand.New(rand.NewSource(6))
	for _, k := range some {
		for _, f := range fillers(k) {
			full := fullBuffer(k, f)
			word := randomBits(random, 3*(k+4))
			for i, limit := range limits(full) {
				n := usable(full[:min(limit, len(full))])
				for _, e := range []int{max(n-1, 0), n + 1} {
					expectSelection(t, full, word, arguments{k, f, limit, i % 4, e})
				}
			}
		}
	}
}

// TestTheLongestSelections has buffers with many, with few and with single usable elements.
func TestTheLongestSelections(t *testing.T) {
	random := rand.New(rand.NewSource(7))
	for _, a := range []arguments{{40, 0, 192, 0, 0}, {40, 39, 16, 1, 0}, {60, 0, 1, 2, 0}, {512, 511, 100, 3, 0}, {6144, 0, 18528, 1, 0}, {6144, 6143, 1 << 20, 2, 0}} {
		full := fullBuffer(a.k, a.f)
		word := randomBits(random, 3*(a.k+4))
		for _, e := range []int{1<<17 - 1, 1 << 17} {
			a.e = e
			expectSelection(t, full, word, a)
		}
	}
	// The only usable element is the last one.
	full := fullBuffer(6144, 6143)
	last := full[1543]
	for rv := range 4 {
		a := arguments{6144, 6143, 1544, rv, 1 << 17}
		expectPositions(t, a, slices.Repeat([]int{last}, 1<<17), api.OK)
		expectMatch(t, with(make([]byte, 18444), last, 1), a, bytes.Repeat([]byte{1}, 1<<17), api.OK)
	}
}

// TestEachBitAlone has a single one at every place of the word, those of the filler bits among them.
func TestEachBitAlone(t *testing.T) {
	for _, a := range []arguments{{40, 0, 192, 0, 132}, {40, 7, 192, 1, 200}, {60, 20, 100, 2, 200}, {61, 60, 288, 3, 300}} {
		l, e := selected(fullBuffer(a.k, a.f), a)
		if e != api.OK {
			t.Fatal(a, e)
		}
		for i := range 3 * (a.k + 4) {
			word := with(make([]byte, 3*(a.k+4)), i, 1)
			expectMatch(t, word, a, taken(word, l), api.OK)
		}
	}
}

// TestSelectionsOfNothing need no usable element.
func TestSelectionsOfNothing(t *testing.T) {
	for _, k := range some {
		for _, f := range fillers(k) {
			for _, limit := range []int{1, 3, 15, 192, math.MaxInt} {
				for rv := range 4 {
					expectPositions(t, arguments{k, f, limit, rv, 0}, nil, api.OK)
					expectMatch(t, make([]byte, 3*(k+4)), arguments{k, f, limit, rv, 0}, nil, api.OK)
				}
			}
		}
	}
}

func TestSelectionsWithoutUsableElements(t *testing.T) {
	for _, a := range []arguments{{40, 0, 1, 0, 0}, {40, 39, 3, 0, 0}, {40, 39, 15, 0, 0}, {60, 1, 1, 0, 0}, {6144, 0, 1, 0, 0}, {6144, 6143, 1543, 0, 0}} {
		for a.rv = range 4 {
			for _, a.e = range []int{1, 2, 132, 1<<17 - 1, 1 << 17} {
				expectPositions(t, a, nil, api.ErrNone)
				expectMatch(t, make([]byte, 3*(a.k+4)), a, nil, api.ErrNone)
			}
		}
	}
}

// expectNoSelection expects ErrArg, whatever the word contains.
func expectNoSelection(t *testing.T, a arguments) {
	t.Helper()
	expectPositions(t, a, nil, api.ErrArg)
	if a.k < 40 || a.k > 6144 {
		return
	}
	for _, element := range []byte{0, 1, 2, 255} {
		expectMatch(t, bytes.Repeat([]byte{element}, 3*(a.k+4)), a, nil, api.ErrArg)
	}
}

// TestNoSelections has each argument out of range, where the others are in range, and where the error without it would be ErrNone.
func TestNoSelections(t *testing.T) {
	for _, k := range []int{40, 60, 61, 6144} {
		for _, valid := range []arguments{{k, 0, 192, 0, 10}, {k, k - 1, 1 << 20, 3, 0}, {k, k - 1, 1, 2, 1}, {k, 1, 1, 1, 1 << 17}} {
			for _, k := range noBlocks {
				a := valid
				a.k = k
				expectNoSelection(t, a)
			}
			for _, f := range noFillers(k) {
				a := valid
				a.f = f
				expectNoSelection(t, a)
			}
			for _, limit := range noLimits {
				a := valid
				a.limit = limit
				expectNoSelection(t, a)
			}
			for _, rv := range noVersions {
				a := valid
				a.rv = rv
				expectNoSelection(t, a)
			}
			for _, e := range noCounts {
				a := valid
				a.e = e
				expectNoSelection(t, a)
			}
		}
	}
}

func TestMatchOfOtherLengths(t *testing.T) {
	long := make([]byte, 19000)
	for n := range long {
		switch {
		case n%3 != 0 || n < 132 || n > 18444:
			expectMatch(t, long[:n], arguments{0, 0, 192, 0, 5}, nil, api.ErrArg)
			expectMatch(t, long[:n], arguments{0, 39, 3, 0, 0}, nil, api.ErrArg)
		case n < 400 || n%7 == 0 || n > 18400:
			expectMatch(t, long[:n], arguments{0, 0, 192, 0, 5}, make([]byte, 5), api.OK)
		}
	}
	for _, n := range []int{1<<16 + 132, 1 << 20, 3 << 20} {
		expectMatch(t, make([]byte, n), arguments{0, 0, 192, 0, 5}, nil, api.ErrArg)
	}
	expectMatch(t, nil, arguments{0, 0, 192, 0, 0}, nil, api.ErrArg)
	expectMatch(t, []byte{}, arguments{0, 0, 192, 0, 0}, nil, api.ErrArg)
}

// TestFillersOfMatch has the greatest F for the number of bits, and one more.
func TestFillersOfMatch(t *testing.T) {
	for _, k := range some {
		word := make([]byte, 3*(k+4))
		expectMatch(t, word, arguments{k, k - 1, 1 << 20, 0, 5}, make([]byte, 5), api.OK)
		for _, f := range noFillers(k) {
			expectMatch(t, word, arguments{k, f, 1 << 20, 0, 5}, nil, api.ErrArg)
		}
	}
}

// TestMatchOfElementsThatAreNoBits changes elements that the selection takes, and others.
func TestMatchOfElementsThatAreNoBits(t *testing.T) {
	random := rand.New(rand.NewSource(8))
	word := randomBits(random, 132)
	for i := range word {
		for element := 2; element <= 255; element++ {
			expectMatch(t, with(word, i, byte(element)), arguments{40, 8, 192, 0, 10}, nil, api.ErrBit)
		}
		for _, element := range []byte{2, 3, 128, 255} {
			expectMatch(t, with(word, i, element), arguments{40, 8, 192, 1, 0}, nil, api.ErrBit)
			expectMatch(t, with(word, i, element), arguments{40, 39, 100, 3, 300}, nil, api.ErrBit)
		}
	}
	for _, k := range some {
		word := randomBits(random, 3*(k+4))
		for _, i := range append([]int{0, k, k + 3, k + 4, 2*k + 7, 2*k + 8, len(word) - 1}, random.Perm(len(word))[:10]...) {
			expectMatch(t, with(word, i, 2), arguments{k, 1, 192, 0, 10}, nil, api.ErrBit)
			expectMatch(t, with(word, i, 255), arguments{k, 0, 1 << 20, 2, 0}, nil, api.ErrBit)
		}
	}
}

// The order of the errors

func TestErrBitBeforeErrNone(t *testing.T) {
	for _, a := range []arguments{{40, 0, 1, 0, 1}, {40, 39, 3, 1, 5}, {40, 39, 15, 2, 1 << 17}, {60, 1, 1, 3, 1}, {6144, 6143, 1543, 0, 100}} {
		n := 3 * (a.k + 4)
		expectMatch(t, make([]byte, n), a, nil, api.ErrNone)
		for _, i := range []int{0, 1, a.k, n / 2, n - 1} {
			expectMatch(t, with(make([]byte, n), i, 2), a, nil, api.ErrBit)
			expectMatch(t, with(make([]byte, n), i, 255), a, nil, api.ErrBit)
		}
	}
}

func TestErrArgBeforeErrBit(t *testing.T) {
	for _, n := range []int{1, 3, 129, 131, 133, 134, 18443, 18445, 18447} {
		for _, i := range []int{0, n / 2, n - 1} {
			word := with(make([]byte, n), i, 2)
			expectMatch(t, word, arguments{0, 0, 192, 0, 5}, nil, api.ErrArg)
			expectMatch(t, word, arguments{0, 39, 3, 0, 5}, nil, api.ErrArg)
		}
	}
}

// P10.4

func TestTimesOfEveryPosition(t *testing.T) {
	random := rand.New(rand.NewSource(9))
	for _, k := range some {
		for _, f := range fillers(k) {
			full := fullBuffer(k, f)
			for _, limit := range limits(full) {
				circle := full[:min(limit, len(full))]
				n := usable(circle)
				if n == 0 {
					continue
				}
				e := random.Intn(4*n + 2)
				times := make([]int, 3*(k+4))
				for _, position := range positions(t, arguments{k, f, limit, random.Intn(4), e}) {
					times[position]++
				}
				for _, position := range circle {
					if position >= 0 {
						if times[position] < e/n || times[position] > (e+n-1)/n {
							t.Errorf("K %d, F %d, limit %d: the position %d occurs %d times in %d of %d", k, f, limit, position, times[position], e, n)
						}
						times[position] = 0
					}
				}
				if slices.Max(times) > 0 {
					t.Errorf("K %d, F %d, limit %d: positions occur that are not usable", k, f, limit)
				}
			}
		}
	}
}

func TestSelectionsAreOnePrefixOfAnother(t *testing.T) {
	random := rand.New(rand.NewSource(10))
	for _, k := range some {
		for _, f := range fillers(k) {
			limit := 3*k + random.Intn(100)
			n, _ := ratematch.Usable(k, f, limit)
			rv := random.Intn(4)
			long := positions(t, arguments{k, f, limit, rv, 3 * n})
			for _, e := range []int{0, 1, n - 1, n, n + 1, 2 * n, random.Intn(3*n + 1)} {
				expectPositions(t, arguments{k, f, limit, rv, e}, long[:e], api.OK)
			}
			for i, position := range long[n:] {
				if long[i] != position {
					t.Fatalf("K %d, F %d, limit %d, rv %d: the position %d is followed by %d after %d bits", k, f, limit, rv, long[i], position, n)
				}
			}
		}
	}
}

func TestUsableElementsOfTheFullBuffer(t *testing.T) {
	for k := 40; k <= 6144; k += 5 {
		f := k * 7 % 31
		expectUsable(t, k, f, 1<<20, 3*(k+4)-2*f, api.OK)
	}
	for _, k := range some {
		for _, f := range fillers(k) {
			expectUsable(t, k, f, len(fullBuffer(k, f)), 3*(k+4)-2*f, api.OK)
			expectUsable(t, k, f, math.MaxInt, 3*(k+4)-2*f, api.OK)
		}
	}
}

// P1 and the document's section Rules

// overwrite changes every element of a slice, and those for which it has room.
func overwrite[E any](l []E, v E) {
	for i := range l[:cap(l)] {
		l[:cap(l)][i] = v
	}
}

// TestTheWordIsNotModified looks at the elements around the word, too, and at words with errors.
func TestTheWordIsNotModified(t *testing.T) {
	random := rand.New(rand.NewSource(11))
	for _, k := range append(some, 39, 6145) {
		n := 3 * (k + 4)
		whole := randomBits(random, n+100)
		for _, element := range []byte{1, 2} {
			whole[3+n/2] = element
			kept := slices.Clone(whole)
			for rv := range 5 {
				ratematch.Match(whole[3:3+n], 3, 192, rv, 500)
				ratematch.Match(whole[3:3+n], 39, 1, rv, 500)
			}
			if !bytes.Equal(whole, kept) {
				t.Errorf("Match changes a word of %d elements, or elements beside it", n)
			}
		}
	}
}

func TestMatchedBitsShareNoMemory(t *testing.T) {
	random := rand.New(rand.NewSource(12))
	for _, k := range some {
		word := randomBits(random, 3*(k+4))
		kept := slices.Clone(word)
		a := arguments{k, 5, 2 * k, 1, 4 * k}
		l, _ := selected(fullBuffer(a.k, a.f), a)
		want := taken(word, l)
		first, _ := ratematch.Match(word, a.f, a.limit, a.rv, a.e)
		second, _ := ratematch.Match(word, a.f, a.limit, a.rv, a.e)
		overwrite(first, 77)
		if !bytes.Equal(word, kept) || !bytes.Equal(second, want) {
			t.Errorf("Match of a block of %d bits shares memory", k)
		}
		expectMatch(t, word, a, want, api.OK)
		overwrite(word, 77)
		if !bytes.Equal(second, want) {
			t.Errorf("Match of a block of %d bits keeps its word", k)
		}
	}
}

func TestPositionsShareNoMemory(t *testing.T) {
	for _, k := range some {
		full := fullBuffer(k, 5)
		for rv := range 4 {
			a := arguments{k, 5, 2 * k, rv, 4 * k}
			want, _ := selected(full, a)
			buffer, _ := ratematch.Buffer(k, 5, 2*k)
			first, second := positions(t, a), positions(t, a)
			overwrite(first, -7)
			if !slices.Equal(buffer, full[:2*k]) || !slices.Equal(second, want) {
				t.Errorf("Positions of %v share memory with another result", a)
			}
			overwrite(buffer, -7)
			if !slices.Equal(second, want) {
				t.Errorf("Buffer(%d, 5, %d) shares memory with another result", k, 2*k)
			}
			expectBuffer(t, k, 5, 2*k, full[:2*k], api.OK)
			expectPositions(t, a, want, api.OK)
		}
	}
}

// TestCapacityDoesNotCount has more elements behind the end of the word.
func TestCapacityDoesNotCount(t *testing.T) {
	word := append(digits(word40), 0, 1, 1, 2, 255)
	for _, x := range matched40 {
		a := arguments{40, x.f, x.limit, x.rv, len(x.bits)}
		expectMatch(t, word[:132], a, digits(x.bits), api.OK)
		for _, n := range []int{0, 129, 130, 131, 133, 134} {
			expectMatch(t, word[:n], a, nil, api.ErrArg)
		}
		expectMatch(t, word[:0], a, nil, api.ErrArg)
	}
}

// TestCallsDoNotDependOnEarlierOnes calls again after calls with other arguments and after errors.
func TestCallsDoNotDependOnEarlierOnes(t *testing.T) {
	for _, k := range append(append(noBlocks, some...), noBlocks...) {
		for rv := -1; rv <= 4; rv++ {
			for _, f := range []int{0, 39, k} {
				ratematch.Buffer(k, f, 15*rv)
				ratematch.Usable(k, f, 15*rv)
				ratematch.Start(k, f, rv)
				ratematch.Positions(k, f, 100, rv, 200)
				ratematch.Positions(k, f, 3, rv, 200)
				ratematch.Match(make([]byte, 3*(k&8191)), f, 100, rv, 200)
			}
		}
		for _, x := range buffers {
			expectBuffer(t, x.k, x.f, x.limit, x.positions, api.OK)
		}
		for _, x := range matched40 {
			expectMatch(t, digits(word40), arguments{40, x.f, x.limit, x.rv, len(x.bits)}, digits(x.bits), api.OK)
		}
		expectPositions(t, selections[2].arguments, selections[2].positions, api.OK)
		expectUsable(t, 40, 8, 1000, 116, api.OK)
		expectStart(t, 40, 65, 2, 44, api.OK)
	}
}
