package segment_test

import (
	"bytes"
	"iter"
	"math"
	"math/rand"
	"slices"
	"testing"

	"userplane/api"
	"userplane/segment"
)

// noCounts are numbers of bits that no transport block has.
var noCounts = []int{0, -1, -2, -40, math.MinInt32, math.MinInt, math.MinInt + 1, api.MaxBits + 1, api.MaxBits + 2, 2 * api.MaxBits, math.MaxInt32, math.MaxInt - 1, math.MaxInt}

// layouts are written out, from a computation of its own.
var layouts = []api.Layout{
	{Bits: 1, Blocks: 1, Long: 40, Longs: 1, Filler: 39},
	{Bits: 2, Blocks: 1, Long: 40, Longs: 1, Filler: 38},
	{Bits: 39, Blocks: 1, Long: 40, Longs: 1, Filler: 1},
	{Bits: 40, Blocks: 1, Long: 40, Longs: 1},
	{Bits: 41, Blocks: 1, Long: 48, Longs: 1, Filler: 7},
	{Bits: 512, Blocks: 1, Long: 512, Longs: 1},
	{Bits: 513, Blocks: 1, Long: 528, Longs: 1, Filler: 15},
	{Bits: 1024, Blocks: 1, Long: 1024, Longs: 1},
	{Bits: 1025, Blocks: 1, Long: 1056, Longs: 1, Filler: 31},
	{Bits: 2048, Blocks: 1, Long: 2048, Longs: 1},
	{Bits: 2049, Blocks: 1, Long: 2112, Longs: 1, Filler: 63},
	{Bits: 6080, Blocks: 1, Long: 6080, Longs: 1},
	{Bits: 6081, Blocks: 1, Long: 6144, Longs: 1, Filler: 63},
	{Bits: 6120, Blocks: 1, Long: 6144, Longs: 1, Filler: 24},
	{Bits: 6121, Blocks: 1, Long: 6144, Longs: 1, Filler: 23},
	{Bits: 6143, Blocks: 1, Long: 6144, Longs: 1, Filler: 1},
	{Bits: 6144, Blocks: 1, Long: 6144, Longs: 1},
	{Bits: 6145, Blocks: 2, Long: 3136, Short: 3072, Longs: 1, Shorts: 1, Filler: 15},
	{Bits: 6160, Blocks: 2, Long: 3136, Short: 3072, Longs: 1, Shorts: 1},
	{Bits: 6161, Blocks: 2, Long: 3136, Short: 3072, Longs: 2, Filler: 63},
	{Bits: 6224, Blocks: 2, Long: 3136, Short: 3072, Longs: 2},
	{Bits: 9000, Blocks: 2, Long: 4544, Short: 4480, Longs: 2, Filler: 40},
	{Bits: 12175, Blocks: 2, Long: 6144, Short: 6080, Longs: 1, Shorts: 1, Filler: 1},
	{Bits: 12176, Blocks: 2, Long: 6144, Short: 6080, Longs: 1, Shorts: 1},
	{Bits: 12239, Blocks: 2, Long: 6144, Short: 6080, Longs: 2, Filler: 1},
	{Bits: 12240, Blocks: 2, Long: 6144, Short: 6080, Longs: 2},
	{Bits: 12241, Blocks: 3, Long: 4160, Short: 4096, Longs: 1, Shorts: 2, Filler: 39},
	{Bits: 18360, Blocks: 3, Long: 6144, Short: 6080, Longs: 3},
	{Bits: 18361, Blocks: 4, Long: 4672, Short: 4608, Longs: 1, Shorts: 3, Filler: 39},
	{Bits: 20000, Blocks: 4, Long: 5056, Short: 4992, Longs: 2, Shorts: 2},
	{Bits: 50000, Blocks: 9, Long: 5632, Short: 5568, Longs: 2, Shorts: 7, Filler: 24},
	{Bits: 73440, Blocks: 12, Long: 6144, Short: 6080, Longs: 12},
	{Bits: 73441, Blocks: 13, Long: 5696, Short: 5632, Longs: 9, Shorts: 4, Filler: 39},
	{Bits: 79000, Blocks: 13, Long: 6144, Short: 6080, Longs: 5, Shorts: 8, Filler: 48},
	{Bits: 79496, Blocks: 13, Long: 6144, Short: 6080, Longs: 12, Shorts: 1},
	{Bits: 79559, Blocks: 13, Long: 6144, Short: 6080, Longs: 13, Filler: 1},
	{Bits: 79560, Blocks: 13, Long: 6144, Short: 6080, Longs: 13},
}

// counts are numbers of bits at the edges of every number of blocks, and some others.
func counts() []int {
	l := []int{1, 2, 38, 39, 40, 41, 100, 512, 513, 6119, 6120, 6121, 6143, 6144}
	for blocks := 2; blocks <= api.MaxBlocks; blocks++ {
		last := blocks * 6120
		l = append(l, last-6120+1, last-6120+2, last-6120+26, last-65, last-64, last-63, last-1, last)
	}
	random := rand.New(rand.NewSource(5))
	for range 60 {
		l = append(l, 1+random.Intn(api.MaxBits))
	}
	for _, want := range layouts {
		l = append(l, want.Bits)
	}
	return l
}

// defined reports by the chapter's definition whether k is a block size.
func defined(k int) bool {
	switch {
	case k < 40 || k > 6144:
		return false
	case k <= 512:
		return k%8 == 0
	case k <= 1024:
		return k%16 == 0
	case k <= 2048:
		return k%32 == 0
	}
	return k%64 == 0
}

// planned returns the layout for b bits by the chapter's definitions, found by trying all sizes.
func planned(b int) api.Layout {
	l := api.Layout{Bits: b, Blocks: 1}
	total := b
	if b > 6144 {
		for l.Blocks*6120 < b {
			l.Blocks++
		}
		total += 24 * l.Blocks
	}
	for !defined(l.Long) || l.Blocks*l.Long < total {
		l.Long++
	}
	if l.Blocks > 1 {
		l.Short = l.Long - 1
		for !defined(l.Short) {
			l.Short--
		}
		for (l.Blocks-l.Shorts-1)*l.Long+(l.Shorts+1)*l.Short >= total {
			l.Shorts++
		}
	}
	l.Longs = l.Blocks - l.Shorts
	for l.Longs*l.Long+l.Shorts*l.Short-l.Filler > total {
		l.Filler++
	}
	return l
}

// remainder returns the CRC24B of bits: what is left of the bits and 24 zeros when the generator is taken away from the front.
func remainder(bits []byte) []byte {
	generator := []byte{1, 1, 0, 0, 0, 0, 0, 0, 0, 0, 0, 0, 0, 0, 0, 0, 0, 0, 1, 1, 0, 0, 0, 1, 1}
	left := slices.Concat(bits, make([]byte, 24))
	for i := range bits {
		if left[i] == 1 {
			for j, g := range generator {
				left[i+j] ^= g
			}
		}
	}
	return left[len(bits):]
}

// divided returns the code blocks of bits by the chapter's definitions.
func divided(bits []byte) [][]byte {
	l := planned(len(bits))
	rest := slices.Concat(make([]byte, l.Filler), bits)
	var blocks [][]byte
	for i := range l.Blocks {
		size := l.Long
		if i < l.Shorts {
			size = l.Short
		}
		if l.Blocks > 1 {
			size -= 24
		}
		block := slices.Clone(rest[:size])
		rest = rest[size:]
		if l.Blocks > 1 {
			block = append(block, remainder(block)...)
		}
		blocks = append(blocks, block)
	}
	return blocks
}

func randomBits(random *rand.Rand, n int) []byte {
	b := make([]byte, n)
	for i := range b {
		b[i] = byte(random.Intn(2))
	}
	return b
}

// fill returns n elements of value v.
func fill(v byte, n int) []byte { return bytes.Repeat([]byte{v}, n) }

// copied returns a copy of blocks that shares no memory with them.
func copied(blocks [][]byte) [][]byte {
	l := make([][]byte, len(blocks))
	for i := range blocks {
		l[i] = slices.Clone(blocks[i])
	}
	return l
}

func equal(a, b [][]byte) bool { return slices.EqualFunc(a, b, bytes.Equal) }

// pairs returns what an iterator yields.
func pairs(each iter.Seq2[int, int]) [][2]int {
	l := [][2]int{}
	for i, size := range each {
		l = append(l, [2]int{i, size})
	}
	return l
}

// sizes returns the indices and sizes of the blocks of a layout.
func sizes(l api.Layout) [][2]int {
	p := [][2]int{}
	for i := range l.Shorts {
		p = append(p, [2]int{i, l.Short})
	}
	for i := range l.Longs {
		p = append(p, [2]int{l.Shorts + i, l.Long})
	}
	return p
}

func split(t *testing.T, bits []byte) [][]byte {
	t.Helper()
	blocks, e := segment.Split(bits)
	if e != api.OK {
		t.Fatalf("Split of %d bits: error %v", len(bits), e)
	}
	return blocks
}

func expectNext(t *testing.T, n, want int, wantError api.Errno) {
	t.Helper()
	if got, e := segment.Next(n); got != want || e != wantError {
		t.Errorf("Next(%d) = %d, %v; want %d, %v", n, got, e, want, wantError)
	}
}

func expectPlan(t *testing.T, b int, want api.Layout, wantError api.Errno) {
	t.Helper()
	if got, e := segment.Plan(b); got != want || e != wantError {
		t.Errorf("Plan(%d) = %v, %v; want %v, %v", b, got, e, want, wantError)
	}
}

func expectSplitError(t *testing.T, bits []byte, want api.Errno) {
	t.Helper()
	if got, e := segment.Split(bits); len(got) != 0 || e != want {
		t.Errorf("Split of %d bits: %d blocks, error %v; want error %v", len(bits), len(got), e, want)
	}
}

func expectJoin(t *testing.T, b int, want []byte, blocks ...[]byte) {
	t.Helper()
	if got, e := segment.Join(b, blocks...); e != api.OK || !bytes.Equal(got, want) {
		t.Errorf("Join(%d) of %d blocks: %d bits, error %v; want %d bits", b, len(blocks), len(got), e, len(want))
	}
}

func expectJoinError(t *testing.T, b int, want api.Errno, blocks ...[]byte) {
	t.Helper()
	if got, e := segment.Join(b, blocks...); len(got) != 0 || e != want {
		t.Errorf("Join(%d) of %d blocks: %d bits, error %v; want error %v", b, len(blocks), len(got), e, want)
	}
}

func TestExamples(t *testing.T) {
	expectNext(t, 41, 48, api.OK)
	expectNext(t, 6144, 6144, api.OK)
	expectNext(t, 6145, 0, api.ErrArg)
	if !segment.Valid(528) || segment.Valid(520) {
		t.Errorf("Valid(528), Valid(520) = %v, %v", segment.Valid(528), segment.Valid(520))
	}
	if n := len(segment.Sizes()); n != 188 {
		t.Errorf("%d sizes", n)
	}
	expectPlan(t, 100, api.Layout{Bits: 100, Blocks: 1, Long: 104, Short: 0, Longs: 1, Shorts: 0, Filler: 4}, api.OK)
	expectPlan(t, 6144, api.Layout{Bits: 6144, Blocks: 1, Long: 6144, Short: 0, Longs: 1, Shorts: 0, Filler: 0}, api.OK)
	expectPlan(t, 6145, api.Layout{Bits: 6145, Blocks: 2, Long: 3136, Short: 3072, Longs: 1, Shorts: 1, Filler: 15}, api.OK)
	expectPlan(t, 0, api.Layout{}, api.ErrArg)
	blocks := split(t, fill(1, 38))
	if len(blocks) != 1 || len(blocks[0]) != 40 || blocks[0][0] != 0 || blocks[0][1] != 0 {
		t.Fatalf("Split of 38 ones = %v", blocks)
	}
	expectJoin(t, 38, fill(1, 38), blocks[0])
	expectJoinError(t, 37, api.ErrBlockFormat, blocks[0])
}

func TestTheValuesOfTheErrors(t *testing.T) {
	if api.ErrBlockFormat != 60 || api.ErrBlockCheck != 61 || api.MaxBits != 13*6120 {
		t.Error(api.ErrBlockFormat, api.ErrBlockCheck, api.MaxBits)
	}
}

// P5.1

func TestSizes(t *testing.T) {
	var want []int
	for k := range 7000 {
		if defined(k) {
			want = append(want, k)
		}
	}
	if got := segment.Sizes(); !slices.Equal(got, want) || len(got) != 188 || !slices.IsSorted(got) {
		t.Errorf("Sizes() = %v; want %v", got, want)
	}
}

func TestSizesAreNewMemory(t *testing.T) {
	first, second := segment.Sizes(), segment.Sizes()
	want := slices.Clone(second)
	for i := range first[:cap(first)] {
		first[:cap(first)][i] = 77
	}
	if !slices.Equal(second, want) || !slices.Equal(segment.Sizes(), want) {
		t.Error("the sizes share memory")
	}
	if segment.Valid(77) || !segment.Valid(40) {
		t.Error("the sizes that were returned are used")
	}
	expectNext(t, 0, 40, api.OK)
	expectPlan(t, 6145, planned(6145), api.OK)
}

func TestValid(t *testing.T) {
	for k := -7000; k <= 13000; k++ {
		if got := segment.Valid(k); got != defined(k) {
			t.Errorf("Valid(%d) = %v", k, got)
		}
	}
	for _, k := range []int{math.MinInt, math.MinInt + 40, math.MinInt32, -6144, -40, 6145, 6152, 6208, 1<<16 + 40, math.MaxInt32, math.MaxInt - 63, math.MaxInt} {
		if segment.Valid(k) {
			t.Errorf("Valid(%d) = true", k)
		}
	}
}

func TestEveryBlockSizeAndItsNeighbours(t *testing.T) {
	all := segment.Sizes()
	for i, k := range all {
		if !segment.Valid(k) || segment.Valid(k-1) || segment.Valid(k+1) {
			t.Errorf("Valid of %d, %d, %d = %v, %v, %v", k-1, k, k+1, segment.Valid(k-1), segment.Valid(k), segment.Valid(k+1))
		}
		expectNext(t, k-1, k, api.OK)
		expectNext(t, k, k, api.OK)
		if i+1 < len(all) {
			expectNext(t, k+1, all[i+1], api.OK)
		}
	}
}

func TestNext(t *testing.T) {
	want := 6144
	for n := 6144; n >= 0; n-- {
		if defined(n) {
			want = n
		}
		expectNext(t, n, want, api.OK)
	}
	for n, want := range map[int]int{0: 40, 1: 40, 39: 40, 40: 40, 41: 48, 512: 512, 513: 528, 1024: 1024, 1025: 1056, 2048: 2048, 2049: 2112, 6080: 6080, 6081: 6144, 6143: 6144, 6144: 6144} {
		expectNext(t, n, want, api.OK)
	}
}

func TestNextOutOfRange(t *testing.T) {
	for _, n := range []int{-1, -2, -40, math.MinInt32, math.MinInt, 6145, 6146, 6208, 1 << 16, math.MaxInt32, math.MaxInt - 1, math.MaxInt} {
		expectNext(t, n, 0, api.ErrArg)
	}
}

// P5.2

func TestPlanOfKnownValues(t *testing.T) {
	for _, want := range layouts {
		expectPlan(t, want.Bits, want, api.OK)
	}
}

func TestPlanOfEveryNumberOfBits(t *testing.T) {
	for b := 1; b <= api.MaxBits; b++ {
		if got, e := segment.Plan(b); e != api.OK || got != planned(b) {
			t.Fatalf("Plan(%d) = %v, %v; want %v", b, got, e, planned(b))
		}
	}
}

func TestPlanOutOfRange(t *testing.T) {
	for _, b := range noCounts {
		expectPlan(t, b, api.Layout{}, api.ErrArg)
	}
}

func TestEachOfEveryNumberOfBits(t *testing.T) {
	for b := 1; b <= api.MaxBits; b++ {
		if got, want := pairs(segment.Each(b)), sizes(planned(b)); !slices.Equal(got, want) {
			t.Fatalf("Each(%d): %v; want %v", b, got, want)
		}
	}
}

func TestEachOfKnownValues(t *testing.T) {
	for b, want := range map[int][][2]int{
		1:           {{0, 40}},
		6144:        {{0, 6144}},
		6145:        {{0, 3072}, {1, 3136}},
		12240:       {{0, 6144}, {1, 6144}},
		20000:       {{0, 4992}, {1, 4992}, {2, 5056}, {3, 5056}},
		api.MaxBits: {{0, 6144}, {1, 6144}, {2, 6144}, {3, 6144}, {4, 6144}, {5, 6144}, {6, 6144}, {7, 6144}, {8, 6144}, {9, 6144}, {10, 6144}, {11, 6144}, {12, 6144}},
	} {
		if got := pairs(segment.Each(b)); !slices.Equal(got, want) {
			t.Errorf("Each(%d): %v; want %v", b, got, want)
		}
	}
}

func TestEachOutOfRange(t *testing.T) {
	for _, b := range noCounts {
		each := segment.Each(b)
		if each == nil {
			t.Fatalf("Each(%d) is nil", b)
		}
		for range 2 {
			if got := pairs(each); len(got) != 0 {
				t.Errorf("Each(%d): %v", b, got)
			}
		}
	}
}

// TestEachLeftEarly leaves the loop at every block, and expects that the iterator starts again from the beginning.
func TestEachLeftEarly(t *testing.T) {
	for _, b := range []int{1, 100, 6144, 6145, 12240, 50000, api.MaxBits} {
		each, want := segment.Each(b), sizes(planned(b))
		for end := 1; end <= len(want); end++ {
			var got [][2]int
			each(func(i, size int) bool {
				got = append(got, [2]int{i, size})
				return len(got) < end
			})
			if !slices.Equal(got, want[:end]) {
				t.Fatalf("Each(%d), left after %d blocks: %v; want %v", b, end, got, want[:end])
			}
			for i, size := range each {
				if i != 0 || size != want[0][1] {
					t.Fatalf("Each(%d), used again: %d, %d", b, i, size)
				}
				break
			}
		}
		if got := pairs(each); !slices.Equal(got, want) {
			t.Fatalf("Each(%d), used again: %v; want %v", b, got, want)
		}
	}
}

func TestEachWithinItself(t *testing.T) {
	each := segment.Each(20000)
	want := pairs(segment.Each(20000))
	rounds := 0
	for i, size := range each {
		if got := pairs(each); !slices.Equal(got, want) {
			t.Fatalf("within block %d: %v; want %v", i, got, want)
		}
		if want[rounds] != [2]int{i, size} {
			t.Fatalf("block %d: %d, %d; want %v", rounds, i, size, want[rounds])
		}
		rounds++
	}
	if rounds != len(want) {
		t.Errorf("%d blocks; want %d", rounds, len(want))
	}
}

// P5.3

func TestSplit(t *testing.T) {
	random := rand.New(rand.NewSource(6))
	for _, b := range counts() {
		for _, bits := range [][]byte{fill(0, b), fill(1, b), randomBits(random, b)} {
			if got := split(t, bits); !equal(got, divided(bits)) {
				t.Fatalf("Split of %d bits is not as defined", b)
			}
		}
	}
}

func TestSplitOfEveryNumberOfBitsOfOneBlock(t *testing.T) {
	bits := randomBits(rand.New(rand.NewSource(7)), api.MaxBlock)
	for b := 1; b <= api.MaxBlock; b++ {
		if got := split(t, bits[:b]); !equal(got, divided(bits[:b])) {
			t.Fatalf("Split of %d bits is not as defined", b)
		}
	}
}

// TestSplitOfASingleBit has all blocks written out: the checksums of blocks of zeros are zeros, and that of a block whose last bit before its checksum is 1 is the generator.
func TestSplitOfASingleBit(t *testing.T) {
	want := [][]byte{fill(0, 3072), fill(0, 3136)}
	bits := fill(0, 6145)
	bits[6144] = 1
	want[1][3136-25] = 1
	copy(want[1][3136-24:], []byte{1, 0, 0, 0, 0, 0, 0, 0, 0, 0, 0, 0, 0, 0, 0, 0, 0, 1, 1, 0, 0, 0, 1, 1})
	if got := split(t, bits); !equal(got, want) {
		t.Errorf("Split of 6144 zeros and a one: %d blocks", len(got))
	}
}

func TestSplitErrors(t *testing.T) {
	for _, n := range []int{0, api.MaxBits + 1, api.MaxBits + 2, 2 * api.MaxBits} {
		expectSplitError(t, fill(0, n), api.ErrArg)
		expectSplitError(t, fill(2, n), api.ErrArg) // before ErrBit
	}
	expectSplitError(t, nil, api.ErrArg)
	for _, b := range []int{1, 2, 40, 6144, 6145, 12240, api.MaxBits} {
		for _, at := range []int{0, b / 2, b - 1} {
			bits := fill(1, b)
			bits[at] = 2
			expectSplitError(t, bits, api.ErrBit)
		}
	}
	for x := 2; x < 256; x++ {
		expectSplitError(t, []byte{0, byte(x), 1}, api.ErrBit)
		expectSplitError(t, slices.Concat(fill(1, 7000), []byte{byte(x)}), api.ErrBit)
	}
}

// P5.4

func TestJoin(t *testing.T) {
	random := rand.New(rand.NewSource(8))
	for _, b := range counts() {
		for _, bits := range [][]byte{fill(0, b), fill(1, b), randomBits(random, b)} {
			expectJoin(t, b, bits, divided(bits)...)
		}
	}
}

func TestJoinArgument(t *testing.T) {
	for _, b := range noCounts {
		expectJoinError(t, b, api.ErrArg)
		expectJoinError(t, b, api.ErrArg, nil)
		expectJoinError(t, b, api.ErrArg, fill(0, 40))
		expectJoinError(t, b, api.ErrArg, fill(2, 40)) // before ErrBit
		expectJoinError(t, b, api.ErrArg, []byte{1}, []byte{2})
	}
}

// TestJoinElementsThatAreNoBits expects ErrBit wherever the element is, and whatever else is wrong.
func TestJoinElementsThatAreNoBits(t *testing.T) {
	for _, b := range []int{1, 38, 6144, 6145, 20000, api.MaxBits} {
		good := divided(randomBits(rand.New(rand.NewSource(9)), b))
		for i := range good {
			for _, at := range []int{0, 1, len(good[i]) / 2, len(good[i]) - 24, len(good[i]) - 1} {
				bad := copied(good)
				bad[i][at] = 2
				expectJoinError(t, b, api.ErrBit, bad...)
				expectJoinError(t, b, api.ErrBit, append(bad, nil)...)              // before ErrBlockFormat: too many
				expectJoinError(t, b, api.ErrBit, bad[i])                           // too few
				expectJoinError(t, b, api.ErrBit, bad[i][:at+1])                    // another size
				expectJoinError(t, b, api.ErrBit, append([][]byte{nil}, bad...)...) // others before it
			}
		}
		expectJoinError(t, b, api.ErrBit, append(copied(good), []byte{1, 0, 2})...) // in a block too many
	}
	for x := 2; x < 256; x++ {
		expectJoinError(t, 40, api.ErrBit, slices.Concat(fill(1, 39), []byte{byte(x)}))
		expectJoinError(t, 40, api.ErrBit, []byte{byte(x)})
	}
}

func TestJoinErrBitBeforeErrBlockCheck(t *testing.T) {
	bad := divided(fill(1, 20000))
	bad[0][100] ^= 1
	expectJoinError(t, 20000, api.ErrBlockCheck, bad...)
	bad[3][200] = 3
	expectJoinError(t, 20000, api.ErrBit, bad...)
	bad[1] = nil
	expectJoinError(t, 20000, api.ErrBit, bad...)
}

func TestJoinNumberOfBlocks(t *testing.T) {
	for _, b := range counts() {
		good := divided(fill(1, b))
		expectJoinError(t, b, api.ErrBlockFormat)
		expectJoinError(t, b, api.ErrBlockFormat, [][]byte{}...)
		expectJoinError(t, b, api.ErrBlockFormat, good[:len(good)-1]...)
		if len(good) > 1 {
			expectJoinError(t, b, api.ErrBlockFormat, good[1:]...)
		}
		for _, more := range [][]byte{nil, {}, {0}, good[0], good[len(good)-1]} {
			expectJoinError(t, b, api.ErrBlockFormat, append(slices.Clone(good), more)...)
			expectJoinError(t, b, api.ErrBlockFormat, append([][]byte{more}, good...)...)
		}
		expectJoinError(t, b, api.ErrBlockFormat, append(slices.Clone(good), good...)...)
	}
}

func TestJoinSizesOfBlocks(t *testing.T) {
	for _, b := range []int{1, 38, 40, 6144, 6145, 12240, 20000, api.MaxBits} {
		good := divided(fill(1, b))
		for i := range good {
			for _, other := range [][]byte{nil, {}, good[i][1:], good[i][:len(good[i])-1], slices.Concat(good[i], []byte{0}), slices.Concat(good[i], fill(0, 64)), fill(0, 40), fill(0, 6144)} {
				if len(other) == len(good[i]) {
					continue
				}
				bad := slices.Clone(good)
				bad[i] = other
				expectJoinError(t, b, api.ErrBlockFormat, bad...)
			}
		}
	}
	blocks := divided(fill(0, 6145)) // a short block and a long one, whose checksums are right in any order
	expectJoinError(t, 6145, api.ErrBlockFormat, blocks[1], blocks[0])
	expectJoinError(t, 6145, api.ErrBlockFormat, blocks[0], blocks[0])
	expectJoinError(t, 6145, api.ErrBlockFormat, blocks[1], blocks[1])
}

// TestJoinOtherNumbersOfBits has blocks of zeros, for which only the number and the sizes of the blocks count.
func TestJoinOtherNumbersOfBits(t *testing.T) {
	zeros, given := map[int][][]byte{}, map[int][][2]int{}
	for _, b := range []int{38, 100, 6144, 6145, 20000, api.MaxBits} {
		zeros[b], given[b] = divided(fill(0, b)), sizes(planned(b))
	}
	for other := 1; other <= api.MaxBits; other += 7 {
		want := sizes(planned(other))
		for b, blocks := range zeros {
			if slices.Equal(want, given[b]) {
				expectJoin(t, other, fill(0, other), blocks...)
			} else {
				expectJoinError(t, other, api.ErrBlockFormat, blocks...)
			}
		}
	}
}

func TestJoinFillerBits(t *testing.T) {
	for _, b := range counts() {
		good := divided(fill(1, b))
		filler := planned(b).Filler
		for at := range filler {
			bad := copied(good)
			bad[0][at] = 1
			expectJoinError(t, b, api.ErrBlockFormat, bad...)
		}
		if filler > 0 && len(good) > 1 { // whatever the checksum is
			bad := copied(good)
			bad[0][filler-1] = 1
			copy(bad[0][len(bad[0])-24:], remainder(bad[0][:len(bad[0])-24]))
			expectJoinError(t, b, api.ErrBlockFormat, bad...)
		}
	}
}

func TestJoinChecksums(t *testing.T) {
	random := rand.New(rand.NewSource(10))
	for _, b := range counts() {
		good := divided(randomBits(random, b))
		if len(good) == 1 {
			continue
		}
		for i := range good {
			bad := copied(good)
			bad[i] = randomBits(random, len(good[i]))
			copy(bad[i], good[i][:64]) // with its filler bits
			expectJoinError(t, b, api.ErrBlockCheck, bad...)
			bad[i] = slices.Concat(good[i][:len(good[i])-24], make([]byte, 24)) // no checksum
			if !bytes.Equal(bad[i], good[i]) {
				expectJoinError(t, b, api.ErrBlockCheck, bad...)
			}
		}
	}
}

func TestJoinErrBlockFormatBeforeErrBlockCheck(t *testing.T) {
	bad := divided(fill(1, 50000))
	last := len(bad) - 1
	bad[0][1000] ^= 1
	expectJoinError(t, 50000, api.ErrBlockCheck, bad...)
	expectJoinError(t, 50000, api.ErrBlockFormat, bad[:last]...)
	expectJoinError(t, 50000, api.ErrBlockFormat, append(slices.Clone(bad), nil)...)
	expectJoinError(t, 50000, api.ErrBlockFormat, append(slices.Clone(bad[:last]), bad[last][1:])...)
	bad[0][0] = 1
	expectJoinError(t, 50000, api.ErrBlockFormat, bad...)
}

// TestJoinOfOneBlockHasNoChecksum has a block that would have no valid CRC24B.
func TestJoinOfOneBlockHasNoChecksum(t *testing.T) {
	random := rand.New(rand.NewSource(11))
	for _, k := range segment.Sizes() {
		bits := randomBits(random, k)
		expectJoin(t, k, bits, bits)
	}
}

// P5.5

func TestJoinIsTheInverseOfSplit(t *testing.T) {
	random := rand.New(rand.NewSource(12))
	bits := randomBits(random, api.MaxBits)
	for b := 1; b <= api.MaxBlock; b++ {
		expectJoin(t, b, bits[:b], split(t, bits[:b])...)
	}
	for _, b := range counts() {
		start := random.Intn(api.MaxBits - b + 1)
		expectJoin(t, b, bits[start:start+b], split(t, bits[start:start+b])...)
	}
}

// TestSplitIsTheInverseOfJoin has blocks that were not made by Split.
func TestSplitIsTheInverseOfJoin(t *testing.T) {
	for _, b := range counts() {
		blocks := divided(randomBits(rand.New(rand.NewSource(13)), b))
		bits, e := segment.Join(b, blocks...)
		if e != api.OK || !equal(split(t, bits), blocks) {
			t.Errorf("Split of Join(%d): error %v, or not the same blocks", b, e)
		}
	}
}

func TestLayoutsAreConsistent(t *testing.T) {
	for b := 1; b <= api.MaxBits; b++ {
		l, _ := segment.Plan(b)
		total, checksums := 0, 0
		for _, size := range segment.Each(b) {
			if !segment.Valid(size) {
				t.Fatalf("Each(%d) has a block of %d bits", b, size)
			}
			total += size
		}
		if l.Blocks > 1 {
			checksums = 24 * l.Blocks
		}
		if total != l.Filler+b+checksums || l.Filler < 0 || l.Filler >= 64 || l.Blocks > api.MaxBlocks || l.Longs < 1 || l.Shorts < 0 {
			t.Fatalf("Plan(%d) = %v, blocks of %d bits", b, l, total)
		}
	}
}

// expectDetected changes a bit, and expects an error: of the format if it is a filler bit.
func expectDetected(t *testing.T, b int, blocks [][]byte, i, at int) {
	t.Helper()
	want := api.ErrBlockCheck
	if i == 0 && at < planned(b).Filler {
		want = api.ErrBlockFormat
	}
	blocks[i][at] ^= 1
	expectJoinError(t, b, want, blocks...)
	blocks[i][at] ^= 1
}

func TestAChangeOfAnyBitIsDetected(t *testing.T) {
	random := rand.New(rand.NewSource(14))
	blocks := split(t, randomBits(random, 6145))
	for i := range blocks {
		for at := range blocks[i] {
			expectDetected(t, 6145, blocks, i, at)
		}
	}
	for _, b := range counts() {
		blocks := split(t, randomBits(random, b))
		if len(blocks) == 1 {
			continue
		}
		for i := range blocks {
			last := len(blocks[i]) - 1
			for _, at := range []int{0, 63, last / 2, last - 24, last - 23, last, random.Intn(last)} {
				expectDetected(t, b, blocks, i, at)
			}
		}
	}
}

func TestSizesOfSplitBlocks(t *testing.T) {
	for _, b := range counts() {
		blocks := split(t, fill(1, b))
		n := 0
		for i, size := range segment.Each(b) {
			if i >= len(blocks) || len(blocks[i]) != size || !segment.Valid(size) {
				t.Fatalf("Split of %d bits: block %d does not have %d bits", b, i, size)
			}
			n++
		}
		if n != len(blocks) {
			t.Errorf("Split of %d bits: %d blocks; want %d", b, len(blocks), n)
		}
	}
}

// P1 and the document's section Rules

// overwrite changes every element of a slice, and those for which it has room.
func overwrite(b []byte) {
	for i := range b[:cap(b)] {
		b[:cap(b)][i] = 77
	}
}

func TestSplitSharesNoMemory(t *testing.T) {
	for _, b := range []int{1, 38, 40, 6144, 6145, 12240, 20000, api.MaxBits} {
		bits := randomBits(rand.New(rand.NewSource(15)), b)
		want := slices.Clone(bits)
		first, second := split(t, bits), split(t, bits)
		kept := copied(second)
		for i := range first { // each block apart: no two of them share memory
			overwrite(first[i])
			if !equal(first[i+1:], kept[i+1:]) {
				t.Fatalf("Split of %d bits: block %d shares memory with the next ones", b, i)
			}
		}
		if !bytes.Equal(bits, want) || !equal(second, kept) {
			t.Fatalf("Split of %d bits: the result shares memory", b)
		}
		overwrite(bits)
		if !equal(second, kept) || !equal(split(t, want), kept) {
			t.Fatalf("Split of %d bits: the result changes with the argument", b)
		}
	}
}

func TestJoinSharesNoMemory(t *testing.T) {
	for _, b := range []int{1, 38, 40, 6144, 6145, 12240, 20000, api.MaxBits} {
		bits := randomBits(rand.New(rand.NewSource(16)), b)
		blocks := divided(bits)
		first, _ := segment.Join(b, blocks...)
		second, _ := segment.Join(b, blocks...)
		overwrite(first)
		if !equal(blocks, divided(bits)) || !bytes.Equal(second, bits) {
			t.Fatalf("Join(%d): the result shares memory", b)
		}
		for i := range blocks {
			overwrite(blocks[i])
		}
		if !bytes.Equal(second, bits) {
			t.Fatalf("Join(%d): the result changes with the blocks", b)
		}
	}
}

// roomy returns a copy of inner with room around its elements, and the whole of it.
func roomy(inner []byte) (copy, whole []byte) {
	whole = slices.Concat(fill(77, 3), inner, fill(77, 100))
	return whole[3 : 3+len(inner)], whole
}

func TestArgumentsAreNotModified(t *testing.T) {
	random := rand.New(rand.NewSource(17))
	for _, b := range []int{0, 1, 38, 6144, 6145, 20000, api.MaxBits, api.MaxBits + 1} {
		for _, last := range []byte{0, 1, 2} {
			bits := randomBits(random, b)
			if b > 0 {
				bits[b-1] = last
			}
			argument, whole := roomy(bits)
			segment.Split(argument)
			if !bytes.Equal(whole, slices.Concat(fill(77, 3), bits, fill(77, 100))) {
				t.Errorf("Split modifies %d bits that end with %d", b, last)
			}
		}
	}
	for _, b := range []int{1, 38, 6144, 6145, 20000, api.MaxBits} {
		good := divided(randomBits(random, b))
		for _, change := range []byte{0, 1, 2} { // right, a wrong checksum, and no bit
			blocks := copied(good)
			blocks[len(blocks)-1][len(blocks[0])-1] ^= change
			arguments, wholes := make([][]byte, len(blocks)), make([][]byte, len(blocks))
			for i := range blocks {
				arguments[i], wholes[i] = roomy(blocks[i])
			}
			segment.Join(b, arguments...)
			segment.Join(b, arguments[:len(arguments)-1]...)
			for i := range blocks {
				if !bytes.Equal(wholes[i], slices.Concat(fill(77, 3), blocks[i], fill(77, 100))) || !bytes.Equal(arguments[i], blocks[i]) {
					t.Errorf("Join(%d) modifies block %d", b, i)
				}
			}
		}
	}
}

// TestTheSameBlockTwice has blocks that share memory with each other.
func TestTheSameBlockTwice(t *testing.T) {
	bits := fill(1, 12240)
	blocks := split(t, bits)
	expectJoin(t, 12240, bits, blocks[0], blocks[0])
}

// TestCallsDoNotDependOnEarlierOnes calls again after other calls and after errors.
func TestCallsDoNotDependOnEarlierOnes(t *testing.T) {
	bits := randomBits(rand.New(rand.NewSource(18)), 9000)
	want := divided(bits)
	for _, b := range append(counts(), noCounts...) {
		segment.Plan(b)
		segment.Next(b)
		segment.Join(b, []byte{2})
		segment.Join(b, []byte{1})
		pairs(segment.Each(b))
		segment.Split([]byte{0, 3})
		segment.Split(bits[:len(bits)-b&7])
		if got := split(t, bits); !equal(got, want) {
			t.Fatalf("after %d: Split of 9000 bits is not as before", b)
		}
		expectJoin(t, 9000, bits, want...)
	}
}
