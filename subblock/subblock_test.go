package subblock_test

import (
	"bytes"
	"math"
	"math/rand"
	"slices"
	"testing"

	"userplane/api"
	"userplane/subblock"
)

// permutation is the column permutation, as the chapter writes it.
var permutation = []int{0, 16, 8, 24, 4, 20, 12, 28, 2, 18, 10, 26, 6, 22, 14, 30, 1, 17, 9, 25, 5, 21, 13, 29, 3, 19, 11, 27, 7, 23, 15, 31}

// orders are lengths of streams with the orders of stream 0 and stream 2, from a computation of its own that uses nothing of this program.
var orders = []struct {
	d           int
	first, last []int
}{
	{
		1,
		[]int{-1, -1, -1, -1, -1, -1, -1, -1, -1, -1, -1, -1, -1, -1, -1, -1, -1, -1, -1, -1, -1, -1, -1, -1, -1, -1, -1, -1, -1, -1, -1, 0},
		[]int{-1, -1, -1, -1, -1, -1, -1, -1, -1, -1, -1, -1, -1, -1, -1, 0, -1, -1, -1, -1, -1, -1, -1, -1, -1, -1, -1, -1, -1, -1, -1, -1},
	},
	{
		32,
		[]int{0, 16, 8, 24, 4, 20, 12, 28, 2, 18, 10, 26, 6, 22, 14, 30, 1, 17, 9, 25, 5, 21, 13, 29, 3, 19, 11, 27, 7, 23, 15, 31},
		[]int{1, 17, 9, 25, 5, 21, 13, 29, 3, 19, 11, 27, 7, 23, 15, 31, 2, 18, 10, 26, 6, 22, 14, 30, 4, 20, 12, 28, 8, 24, 16, 0},
	},
	{
		33,
		[]int{-1, 1, -1, 17, -1, 9, -1, 25, -1, 5, -1, 21, -1, 13, -1, 29, -1, 3, -1, 19, -1, 11, -1, 27, -1, 7, -1, 23, -1, 15, -1, 31, -1, 2, -1, 18, -1, 10, -1, 26, -1, 6, -1, 22, -1, 14, -1, 30, -1, 4, -1, 20, -1, 12, -1, 28, -1, 8, -1, 24, -1, 16, 0, 32},
		[]int{-1, 2, -1, 18, -1, 10, -1, 26, -1, 6, -1, 22, -1, 14, -1, 30, -1, 4, -1, 20, -1, 12, -1, 28, -1, 8, -1, 24, -1, 16, 0, 32, -1, 3, -1, 19, -1, 11, -1, 27, -1, 7, -1, 23, -1, 15, -1, 31, -1, 5, -1, 21, -1, 13, -1, 29, -1, 9, -1, 25, -1, 17, 1, -1},
	},
	{
		44,
		[]int{-1, 12, -1, 28, -1, 20, 4, 36, -1, 16, 0, 32, -1, 24, 8, 40, -1, 14, -1, 30, -1, 22, 6, 38, -1, 18, 2, 34, -1, 26, 10, 42, -1, 13, -1, 29, -1, 21, 5, 37, -1, 17, 1, 33, -1, 25, 9, 41, -1, 15, -1, 31, -1, 23, 7, 39, -1, 19, 3, 35, -1, 27, 11, 43},
		[]int{-1, 13, -1, 29, -1, 21, 5, 37, -1, 17, 1, 33, -1, 25, 9, 41, -1, 15, -1, 31, -1, 23, 7, 39, -1, 19, 3, 35, -1, 27, 11, 43, -1, 14, -1, 30, -1, 22, 6, 38, -1, 18, 2, 34, -1, 26, 10, 42, -1, 16, 0, 32, -1, 24, 8, 40, -1, 20, 4, 36, -1, 28, 12, -1},
	},
}

// sums are lengths of streams with the lengths of their orders and sums over those of stream 0 and stream 2, from the same computation.
var sums = [][4]int{
	{1, 32, 560, 544},
	{2, 32, 608, 584},
	{31, 32, 9352, 8856},
	{32, 32, 9880, 9384},
	{33, 64, 21903, 20877},
	{63, 64, 70672, 68656},
	{64, 64, 72752, 70736},
	{65, 96, 114158, 111098},
	{132, 160, 742128, 731736},
	{1000, 1024, 459144, 948308},
	{4100, 4128, 549558, 92186},
	{6147, 6176, 953555, 977052},
	{6148, 6176, 946986, 969519},
}

// stream44 and interleaved44 are a stream of 44 bits and its three interleaved streams, from the same computation.
const stream44 = "11010000110100001101000100000000110000111011"

var interleaved44 = [3]string{
	"2020200021112011202020012000200120202000211120102020210121102011",
	"2020200021112011202020012000200120202000211120102020210121102011",
	"2020200021112010202021012110201120202001200020012111201120002002",
}

// noLengths are integers that are no length of a stream, some of them equal to one if they were cut.
var noLengths = []int{0, -1, -2, -31, -32, -33, -44, -6148, -6149, 6149, 6150, 6176, 6177, 12296, 1<<16 + 1, 1<<16 + 44, 1<<32 + 1, 1<<32 + 44, math.MaxInt32, math.MinInt32, math.MinInt32 + 44, math.MaxInt - 31, math.MaxInt - 30, math.MaxInt - 1, math.MaxInt, math.MinInt, math.MinInt + 1, math.MinInt + 44}

// noStreams are integers that are no stream.
var noStreams = []int{-1, -2, -3, 3, 4, 5, 32, 255, 256, 257, 258, 1 << 16, 1<<32 + 1, 1<<32 + 2, math.MaxInt32, math.MinInt32, math.MaxInt - 1, math.MaxInt, math.MinInt, math.MinInt + 1, math.MinInt + 2}

// some are lengths of streams with no, one and many dummy elements, the least and the greatest among them.
var some = []int{1, 2, 31, 32, 33, 44, 63, 64, 65, 96, 132, 1024, 1028, 6147, 6148}

// matrix returns the rows of the matrix of some elements, filled as the chapter says.
func matrix[E any](elements []E, dummy E) [][]E {
	var rows [][]E
	for 32*len(rows) < len(elements) {
		rows = append(rows, nil)
	}
	filled := make([]E, 32*len(rows)-len(elements))
	for i := range filled {
		filled[i] = dummy
	}
	filled = append(filled, elements...)
	for r := range rows {
		rows[r] = filled[32*r : 32*r+32]
	}
	return rows
}

// interleaved reads the matrix of some elements column by column. For stream 2 it starts with the elements of the columns on the right, and goes on in the next row at the end of a row, and in the first row at the end of the last one.
func interleaved[E any](elements []E, dummy E, stream int) []E {
	rows := matrix(elements, dummy)
	var l []E
	for _, column := range permutation {
		for r := range rows {
			switch {
			case stream < 2:
				l = append(l, rows[r][column])
			case column < 31:
				l = append(l, rows[r][column+1])
			default:
				l = append(l, rows[(r+1)%len(rows)][0])
			}
		}
	}
	return l
}

// order returns the order of a stream by its definition.
func order(d, stream int) []int {
	return interleaved(count(d), -1, stream)
}

// count returns the integers from 0 to n - 1.
func count(n int) []int {
	l := make([]int, n)
	for i := range l {
		l[i] = i
	}
	return l
}

func randomBits(random *rand.Rand, n int) []byte {
	b := make([]byte, n)
	for i := range b {
		b[i] = byte(random.Intn(2))
	}
	return b
}

// digits returns the elements that a string of digits shows.
func digits(s string) []byte {
	b := make([]byte, len(s))
	for i := range b {
		b[i] = s[i] - '0'
	}
	return b
}

// with returns a slice with another element at an index.
func with(l []byte, i int, element byte) []byte {
	c := slices.Clone(l)
	c[i] = element
	return c
}

// places returns some indices of a slice of n elements, the first and the last one among them.
func places(n int) []int {
	l := []int{0, n / 3, n / 2, n - 2, n - 1}
	return slices.DeleteFunc(l, func(i int) bool { return i < 0 })
}

func expectColumn(t *testing.T, k, want int) {
	t.Helper()
	if got := subblock.Column(k); got != want {
		t.Errorf("Column(%d) = %d; want %d", k, got, want)
	}
}

func expectRows(t *testing.T, d, want int) {
	t.Helper()
	if got := subblock.Rows(d); got != want {
		t.Errorf("Rows(%d) = %d; want %d", d, got, want)
	}
}

func expectOrder(t *testing.T, d, stream int, want []int, wantError api.Errno) {
	t.Helper()
	if got, e := subblock.Order(d, stream); !slices.Equal(got, want) || e != wantError {
		t.Errorf("Order(%d, %d): %d elements, error %v, or not as defined; want %d, error %v", d, stream, len(got), e, len(want), wantError)
	}
}

func expectInterleave(t *testing.T, bits []byte, stream int, want []byte, wantError api.Errno) {
	t.Helper()
	if got, e := subblock.Interleave(bits, stream); !bytes.Equal(got, want) || e != wantError {
		t.Errorf("Interleave of %d elements, %d: %d elements, error %v, or not as defined; want %d, error %v", len(bits), stream, len(got), e, len(want), wantError)
	}
}

func expectDeinterleave(t *testing.T, l []byte, d, stream int, want []byte, wantError api.Errno) {
	t.Helper()
	if got, e := subblock.Deinterleave(l, d, stream); !bytes.Equal(got, want) || e != wantError {
		t.Errorf("Deinterleave of %d elements, %d, %d: %d elements, error %v, or not as defined; want %d, error %v", len(l), d, stream, len(got), e, len(want), wantError)
	}
}

// expectBoth expects that a stream has an interleaved stream, and is the stream of it.
func expectBoth(t *testing.T, bits []byte, stream int, l []byte) {
	t.Helper()
	expectInterleave(t, bits, stream, l, api.OK)
	expectDeinterleave(t, l, len(bits), stream, bits, api.OK)
}

func interleave(t *testing.T, bits []byte, stream int) []byte {
	t.Helper()
	l, e := subblock.Interleave(bits, stream)
	if e != api.OK {
		t.Fatalf("Interleave of %d bits, %d: error %v", len(bits), stream, e)
	}
	return l
}

func TestExamples(t *testing.T) {
	expectColumn(t, 1, 16)
	expectColumn(t, 30, 15)
	expectColumn(t, 32, -1)
	expectRows(t, 44, 2)
	expectRows(t, 32, 1)
	expectRows(t, 0, 0)
	first, e := subblock.Order(32, 0)
	if e != api.OK || len(first) != 32 || !slices.Equal(first[:4], []int{0, 16, 8, 24}) {
		t.Errorf("Order(32, 0) = %v, %v", first, e)
	}
	last, e := subblock.Order(32, 2)
	if e != api.OK || len(last) != 32 || !slices.Equal(last[:4], []int{1, 17, 9, 25}) || last[31] != 0 {
		t.Errorf("Order(32, 2) = %v, %v", last, e)
	}
	second, e := subblock.Order(33, 1)
	if e != api.OK || len(second) != 64 || !slices.Equal(second[:4], []int{-1, 1, -1, 17}) {
		t.Errorf("Order(33, 1) = %v, %v", second, e)
	}
}

func TestConstants(t *testing.T) {
	if subblock.Columns != 32 || subblock.MaxLen != 6148 || subblock.Dummy != 2 {
		t.Errorf("Columns, MaxLen and Dummy are %d, %d and %d", subblock.Columns, subblock.MaxLen, subblock.Dummy)
	}
}

// P9.1

func TestColumnsOfEveryInteger(t *testing.T) {
	for k := -1000; k <= 1000; k++ {
		if k >= 0 && k < 32 {
			expectColumn(t, k, permutation[k])
		} else {
			expectColumn(t, k, -1)
		}
	}
	for _, k := range []int{1 << 8, 1 << 16, 1<<32 + 1, math.MaxInt32, math.MinInt32, math.MaxInt - 1, math.MaxInt, math.MinInt, math.MinInt + 1} {
		expectColumn(t, k, -1)
	}
}

func TestColumnsAreReversedBits(t *testing.T) {
	for k := range 32 {
		reversed := 0
		for bit := range 5 {
			reversed |= k >> bit & 1 << (4 - bit)
		}
		expectColumn(t, k, reversed)
	}
}

func TestRowsOfEveryLength(t *testing.T) {
	for d := 1; d <= 6148; d++ {
		rows := 0
		for 32*rows < d {
			rows++
		}
		expectRows(t, d, rows)
	}
	expectRows(t, 1, 1)
	expectRows(t, 33, 2)
	expectRows(t, 6144, 192)
	expectRows(t, 6145, 193)
	expectRows(t, 6148, 193)
}

func TestRowsOfOtherIntegers(t *testing.T) {
	for d := -7000; d <= 0; d++ {
		expectRows(t, d, 0)
	}
	for d := 6149; d <= 13000; d++ {
		expectRows(t, d, 0)
	}
	for _, d := range noLengths {
		expectRows(t, d, 0)
	}
}

// P9.2

func TestOrdersOfKnownValues(t *testing.T) {
	for _, x := range orders {
		expectOrder(t, x.d, 0, x.first, api.OK)
		expectOrder(t, x.d, 1, x.first, api.OK)
		expectOrder(t, x.d, 2, x.last, api.OK)
	}
	for _, x := range sums {
		for stream := range 3 {
			l, e := subblock.Order(x[0], stream)
			sum := 0
			for k, i := range l {
				sum += (k + 1) * (i + 2)
			}
			if want := x[2+stream/2]; e != api.OK || len(l) != x[1] || sum%1000003 != want {
				t.Errorf("Order(%d, %d): %d elements, sum %d, error %v; want %d, sum %d", x[0], stream, len(l), sum%1000003, e, x[1], want)
			}
		}
	}
}

func TestOrdersOfEveryLength(t *testing.T) {
	for d := 1; d <= 6148; d++ {
		for stream := range 3 {
			expectOrder(t, d, stream, order(d, stream), api.OK)
		}
	}
}

func TestOrdersOfOtherIntegers(t *testing.T) {
	for d := -7000; d <= 13000; d++ {
		if d < 1 || d > 6148 {
			for stream := range 3 {
				expectOrder(t, d, stream, nil, api.ErrArg)
			}
		}
	}
	for _, d := range noLengths {
		for stream := -2; stream <= 4; stream++ {
			expectOrder(t, d, stream, nil, api.ErrArg)
		}
	}
	for _, stream := range noStreams {
		for _, d := range some {
			expectOrder(t, d, stream, nil, api.ErrArg)
		}
	}
	for stream := -300; stream <= 300; stream++ {
		if stream < 0 || stream > 2 {
			expectOrder(t, 44, stream, nil, api.ErrArg)
		}
	}
}

// P9.3

func TestKnownStreams(t *testing.T) {
	for stream, l := range interleaved44 {
		expectBoth(t, digits(stream44), stream, digits(l))
	}
	expectBoth(t, []byte{1}, 0, digits("22222222222222222222222222222221"))
	expectBoth(t, []byte{0}, 2, digits("22222222222222202222222222222222"))
	expectBoth(t, digits("10000000000000000000000000000000"), 1, digits("10000000000000000000000000000000"))
	expectBoth(t, digits("10000000000000000000000000000000"), 2, digits("00000000000000000000000000000001"))
}

func TestStreamsOfEveryLength(t *testing.T) {
	random := rand.New(rand.NewSource(1))
	for d := 1; d <= 6148; d++ {
		bits := randomBits(random, d)
		for stream := range 3 {
			expectBoth(t, bits, stream, interleaved(bits, 2, stream))
		}
	}
	for _, d := range some {
		for stream := range 3 {
			for _, bit := range []byte{0, 1} {
				bits := bytes.Repeat([]byte{bit}, d)
				expectBoth(t, bits, stream, interleaved(bits, 2, stream))
			}
		}
	}
}

// TestEachBitAlone has a single one at every place.
func TestEachBitAlone(t *testing.T) {
	for _, d := range []int{1, 31, 32, 33, 64, 100} {
		for i := range d {
			bits := with(make([]byte, d), i, 1)
			for stream := range 3 {
				expectBoth(t, bits, stream, interleaved(bits, 2, stream))
			}
		}
	}
}

func TestInterleaveOfOtherLengths(t *testing.T) {
	random := rand.New(rand.NewSource(2))
	bits := randomBits(random, 13000)
	for stream := -1; stream <= 3; stream++ {
		expectInterleave(t, nil, stream, nil, api.ErrArg)
		expectInterleave(t, []byte{}, stream, nil, api.ErrArg)
		for n := 6149; n <= len(bits); n++ {
			expectInterleave(t, bits[:n], stream, nil, api.ErrArg)
		}
		expectInterleave(t, make([]byte, 1<<20), stream, nil, api.ErrArg)
		expectInterleave(t, make([]byte, 1<<16+44), stream, nil, api.ErrArg)
	}
}

func TestInterleaveOfOtherStreams(t *testing.T) {
	random := rand.New(rand.NewSource(3))
	for _, d := range some {
		for _, stream := range noStreams {
			expectInterleave(t, randomBits(random, d), stream, nil, api.ErrArg)
		}
	}
}

func TestInterleaveOfElementsThatAreNoBits(t *testing.T) {
	random := rand.New(rand.NewSource(4))
	bits := randomBits(random, 44)
	for i := range bits {
		for element := 2; element <= 255; element++ {
			for stream := range 3 {
				expectInterleave(t, with(bits, i, byte(element)), stream, nil, api.ErrBit)
			}
		}
	}
	for _, d := range some {
		bits := randomBits(random, d)
		for _, i := range places(d) {
			for stream := range 3 {
				expectInterleave(t, with(bits, i, 2), stream, nil, api.ErrBit)
				expectInterleave(t, with(bits, i, 255), stream, nil, api.ErrBit)
			}
		}
		expectInterleave(t, bytes.Repeat([]byte{2}, d), 0, nil, api.ErrBit)
	}
}

func TestDeinterleaveOfOtherLengths(t *testing.T) {
	random := rand.New(rand.NewSource(5))
	long := bytes.Repeat([]byte{0}, 6300)
	for _, d := range some {
		for stream := range 3 {
			l := interleave(t, randomBits(random, d), stream)
			expectDeinterleave(t, nil, d, stream, nil, api.ErrArg)
			expectDeinterleave(t, l[:len(l)-1], d, stream, nil, api.ErrArg)
			expectDeinterleave(t, l[:len(l)-32], d, stream, nil, api.ErrArg)
			expectDeinterleave(t, append(slices.Clone(l), 0), d, stream, nil, api.ErrArg)
			expectDeinterleave(t, append(slices.Clone(l), l[:32]...), d, stream, nil, api.ErrArg)
			for n := range long {
				if n != len(l) {
					expectDeinterleave(t, long[:n], d, stream, nil, api.ErrArg)
				}
			}
		}
	}
}

func TestDeinterleaveOfOtherIntegers(t *testing.T) {
	random := rand.New(rand.NewSource(6))
	l := interleave(t, randomBits(random, 44), 0)
	for d := -7000; d <= 13000; d++ {
		// A length with as many rows has other dummy elements.
		switch {
		case d < 33 || d > 64:
			expectDeinterleave(t, l, d, 0, nil, api.ErrArg)
		case d != 44:
			expectDeinterleave(t, l, d, 0, nil, api.ErrFormat)
		}
	}
	for _, d := range noLengths {
		for stream := -1; stream <= 3; stream++ {
			expectDeinterleave(t, l, d, stream, nil, api.ErrArg)
			expectDeinterleave(t, nil, d, stream, nil, api.ErrArg)
			expectDeinterleave(t, make([]byte, 32), d, stream, nil, api.ErrArg)
			expectDeinterleave(t, make([]byte, 6176), d, stream, nil, api.ErrArg)
		}
	}
	for _, stream := range noStreams {
		expectDeinterleave(t, l, 44, stream, nil, api.ErrArg)
		expectDeinterleave(t, make([]byte, 32), 32, stream, nil, api.ErrArg)
		expectDeinterleave(t, nil, 0, stream, nil, api.ErrArg)
	}
}

// TestDeinterleaveOfWrongElements changes each element to each value that it may not have.
func TestDeinterleaveOfWrongElements(t *testing.T) {
	random := rand.New(rand.NewSource(7))
	for _, d := range []int{1, 32, 33, 44, 63, 65} {
		bits := randomBits(random, d)
		for stream := range 3 {
			l := interleave(t, bits, stream)
			for k, i := range order(d, stream) {
				for element := range 256 {
					changed := with(l, k, byte(element))
					switch {
					case i >= 0 && element < 2:
						expectDeinterleave(t, changed, d, stream, with(bits, i, byte(element)), api.OK)
					case i < 0 && element == 2:
						expectDeinterleave(t, changed, d, stream, bits, api.OK)
					default:
						expectDeinterleave(t, changed, d, stream, nil, api.ErrFormat)
					}
				}
			}
		}
	}
}

func TestDeinterleaveOfWrongElementsOfLongStreams(t *testing.T) {
	random := rand.New(rand.NewSource(8))
	for _, d := range some {
		for stream := range 3 {
			l := interleave(t, randomBits(random, d), stream)
			for _, k := range append(places(len(l)), random.Perm(len(l))[:10]...) {
				// A dummy element turns into a bit, and a bit into a dummy element.
				expectDeinterleave(t, with(l, k, l[k]^2), d, stream, nil, api.ErrFormat)
				expectDeinterleave(t, with(l, k, 3), d, stream, nil, api.ErrFormat)
				expectDeinterleave(t, with(l, k, 255), d, stream, nil, api.ErrFormat)
			}
		}
		if d%32 != 0 {
			expectDeinterleave(t, make([]byte, 32*subblock.Rows(d)), d, 0, nil, api.ErrFormat)
		}
		expectDeinterleave(t, bytes.Repeat([]byte{2}, 32*subblock.Rows(d)), d, 0, nil, api.ErrFormat)
	}
}

// TestDeinterleaveOfAnotherStream has dummy elements at the places where the other stream has them.
func TestDeinterleaveOfAnotherStream(t *testing.T) {
	random := rand.New(rand.NewSource(9))
	for _, d := range some {
		if d%32 == 0 {
			continue // without dummy elements, the streams cannot be told apart
		}
		bits := randomBits(random, d)
		expectDeinterleave(t, interleave(t, bits, 0), d, 1, bits, api.OK)
		expectDeinterleave(t, interleave(t, bits, 1), d, 0, bits, api.OK)
		for _, stream := range []int{0, 1} {
			expectDeinterleave(t, interleave(t, bits, stream), d, 2, nil, api.ErrFormat)
			expectDeinterleave(t, interleave(t, bits, 2), d, stream, nil, api.ErrFormat)
		}
	}
}

// The order of the errors

func TestErrArgBeforeErrBit(t *testing.T) {
	for _, element := range []byte{2, 3, 255} {
		for _, d := range some {
			for _, stream := range noStreams {
				expectInterleave(t, bytes.Repeat([]byte{element}, d), stream, nil, api.ErrArg)
				expectInterleave(t, with(make([]byte, d), d-1, element), stream, nil, api.ErrArg)
			}
		}
		for _, d := range []int{6149, 6176, 1 << 16} {
			for stream := range 3 {
				expectInterleave(t, bytes.Repeat([]byte{element}, d), stream, nil, api.ErrArg)
				expectInterleave(t, with(make([]byte, d), 0, element), stream, nil, api.ErrArg)
				expectInterleave(t, with(make([]byte, d), d-1, element), stream, nil, api.ErrArg)
			}
		}
	}
}

func TestErrArgBeforeErrFormat(t *testing.T) {
	for _, element := range []byte{0, 1, 2, 3, 255} {
		for _, d := range some {
			size := 32 * subblock.Rows(d)
			l := bytes.Repeat([]byte{element}, size+32)
			for _, stream := range noStreams {
				expectDeinterleave(t, l[:size], d, stream, nil, api.ErrArg)
			}
			for stream := range 3 {
				for _, n := range []int{0, 1, size - 1, size + 1, size + 32} {
					expectDeinterleave(t, l[:n], d, stream, nil, api.ErrArg)
				}
				for _, none := range noLengths {
					expectDeinterleave(t, l[:size], none, stream, nil, api.ErrArg)
				}
			}
		}
	}
}

// P9.4

func TestEveryIndexOccursOnce(t *testing.T) {
	for d := 1; d <= 6148; d++ {
		for stream := range 3 {
			l, e := subblock.Order(d, stream)
			if e != api.OK || len(l) != 32*subblock.Rows(d) {
				t.Fatalf("Order(%d, %d): %d elements, error %v", d, stream, len(l), e)
			}
			times, dummies := make([]int, d), 0
			for _, i := range l {
				if i == -1 {
					dummies++
				} else {
					times[i]++
				}
			}
			if slices.Max(times) != 1 || slices.Min(times) != 1 || dummies != len(l)-d {
				t.Errorf("Order(%d, %d) has %d dummy elements, or not every index once", d, stream, dummies)
			}
		}
	}
}

func TestThePermutationIsItsOwnInverse(t *testing.T) {
	for k := range 32 {
		expectColumn(t, subblock.Column(k), k)
	}
}

func TestDeinterleaveOfInterleave(t *testing.T) {
	random := rand.New(rand.NewSource(10))
	for d := 1; d <= 6148; d++ {
		bits := randomBits(random, d)
		for stream := range 3 {
			expectDeinterleave(t, interleave(t, bits, stream), d, stream, bits, api.OK)
		}
	}
}

func TestTheOrdersOfTheStreams(t *testing.T) {
	for d := 1; d <= 6148; d++ {
		first, _ := subblock.Order(d, 0)
		second, _ := subblock.Order(d, 1)
		last, _ := subblock.Order(d, 2)
		if !slices.Equal(first, second) {
			t.Errorf("Order(%d, 0) and Order(%d, 1) differ", d, d)
		}
		for k, i := range first {
			if i >= 0 && i < d-1 && last[k] != i+1 {
				t.Fatalf("element %d of Order(%d, 0) is %d, and of Order(%d, 2) %d", k, d, i, d, last[k])
			}
		}
	}
}

// TestTheFunctionsAgree compares an interleaved stream with the order.
func TestTheFunctionsAgree(t *testing.T) {
	random := rand.New(rand.NewSource(11))
	for _, d := range some {
		bits := randomBits(random, d)
		for stream := range 3 {
			l := interleave(t, bits, stream)
			indices, _ := subblock.Order(d, stream)
			for k, i := range indices {
				if i < 0 && l[k] != subblock.Dummy || i >= 0 && l[k] != bits[i] {
					t.Fatalf("element %d of the interleaved stream of %d bits is %d, of its order %d", k, d, l[k], i)
				}
			}
		}
	}
}

// P1 and the document's section Rules

// overwrite changes every element of a slice, and those for which it has room.
func overwrite[E any](l []E, v E) {
	for i := range l[:cap(l)] {
		l[:cap(l)][i] = v
	}
}

// calls are the functions that take elements: those of an interleaved stream of d elements, or the d bits.
var calls = map[string]func(l []byte, d, stream int) []byte{
	"Interleave":   func(l []byte, _, stream int) []byte { r, _ := subblock.Interleave(l, stream); return r },
	"Deinterleave": func(l []byte, d, stream int) []byte { r, _ := subblock.Deinterleave(l, d, stream); return r },
}

// argument returns a valid argument of a function, with some elements behind it.
func argument(name string, random *rand.Rand, d, stream int) []byte {
	l := randomBits(random, d)
	if name == "Deinterleave" {
		l = interleaved(l, 2, stream)
	}
	n := len(l)
	return append(l, 1, 0, 2, 1)[:n]
}

// TestArgumentsAreNotModified looks at the elements behind the arguments, too, and at arguments with errors.
func TestArgumentsAreNotModified(t *testing.T) {
	random := rand.New(rand.NewSource(12))
	for name, call := range calls {
		for _, d := range append(some, 6149, 7000) {
			for stream := -1; stream <= 3; stream++ {
				l := argument(name, random, d, stream)
				for _, element := range []byte{0, 1, 2, 255} {
					l[d/2] = element
					kept := slices.Clone(l[:cap(l)])
					call(l, d, stream)
					if !bytes.Equal(l[:cap(l)], kept) {
						t.Errorf("%s, %d, %d changes its argument", name, d, stream)
					}
				}
			}
		}
	}
}

func TestResultsShareNoMemory(t *testing.T) {
	random := rand.New(rand.NewSource(13))
	for name, call := range calls {
		for _, d := range some {
			for stream := range 3 {
				l := argument(name, random, d, stream)
				kept := slices.Clone(l)
				first, second := call(l, d, stream), call(l, d, stream)
				want := slices.Clone(second)
				overwrite(first, 77)
				if !bytes.Equal(l, kept) {
					t.Errorf("%s, %d, %d shares memory with its argument", name, d, stream)
				}
				if !bytes.Equal(second, want) || !bytes.Equal(call(l, d, stream), want) {
					t.Errorf("%s, %d, %d shares memory with another result", name, d, stream)
				}
				overwrite(l, 77)
				if !bytes.Equal(second, want) {
					t.Errorf("%s, %d, %d keeps its argument", name, d, stream)
				}
			}
		}
	}
}

func TestOrdersShareNoMemory(t *testing.T) {
	for _, d := range some {
		for stream := range 3 {
			want := order(d, stream)
			first, _ := subblock.Order(d, stream)
			second, _ := subblock.Order(d, stream)
			overwrite(first, -7)
			if !slices.Equal(second, want) {
				t.Errorf("Order(%d, %d) shares memory with another result", d, stream)
			}
			expectOrder(t, d, stream, want, api.OK)
		}
	}
	for k, column := range permutation {
		expectColumn(t, k, column)
	}
}

// TestCapacityDoesNotCount has more elements behind the end of the slice.
func TestCapacityDoesNotCount(t *testing.T) {
	random := rand.New(rand.NewSource(14))
	bits := randomBits(random, 7000)
	bits[44], bits[6148] = 2, 255
	expectInterleave(t, bits[:0], 0, nil, api.ErrArg)
	for _, d := range []int{1, 32, 43, 44} {
		for stream := range 3 {
			expectInterleave(t, bits[:d], stream, interleaved(bits[:d], 2, stream), api.OK)
			l := append(interleaved(bits[:d], 2, stream), bits...)
			size := len(l) - len(bits)
			expectDeinterleave(t, l[:size], d, stream, bits[:d], api.OK)
			expectDeinterleave(t, l[:size-1], d, stream, nil, api.ErrArg)
		}
	}
	expectInterleave(t, bits[45:6149], 2, nil, api.ErrBit)
}

// TestCallsDoNotDependOnEarlierOnes calls again after calls with other lengths and after errors.
func TestCallsDoNotDependOnEarlierOnes(t *testing.T) {
	random := rand.New(rand.NewSource(15))
	for _, d := range append(append(noLengths, some...), noLengths...) {
		for stream := -1; stream <= 3; stream++ {
			subblock.Column(d)
			subblock.Rows(d)
			subblock.Order(d, stream)
			for name, call := range calls {
				l := argument(name, random, d&8191, stream)
				call(l, d, stream)
				call(append(l, 3), d, stream)
			}
			for known, l := range interleaved44 {
				expectBoth(t, digits(stream44), known, digits(l))
			}
			expectOrder(t, 44, 0, orders[3].first, api.OK)
			expectOrder(t, 44, 2, orders[3].last, api.OK)
			expectColumn(t, 1, 16)
			expectRows(t, 44, 2)
		}
	}
}
