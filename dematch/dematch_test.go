package dematch_test

import (
	"fmt"
	"math"
	"math/rand"
	"slices"
	"testing"

	"userplane/api"
	"userplane/dematch"
	"userplane/ratematch"
	"userplane/soft"
	"userplane/turbo"
)

// parameters are those of a buffer.
type parameters struct{ k, f, limit int }

// sent is a transmission of n values of a series.
type sent struct{ rv, n, series int }

// buffers are buffers after transmissions, with the number of known and of received values and all values, from a computation of its own that uses nothing of this program.
var buffers = []struct {
	parameters
	sent            []sent
	known, received int
	values          []int
}{
	{parameters{40, 4, 1000}, []sent{{0, 100, 1}, {2, 30, 2}, {3, 13, 3}}, 112, 143, []int{
		127, 127, 127, 127, -28, 62, -23, -28, 92, 7, -118, -43, 0, -28, -38, 62, -13, 7, -43, -118, -70, 55, 80, 110, -5, -55, -70, 40, 0, 110, -10, 55, -40, -55, 40, -70, 76, -124, -64, -104, -4, -124, -104, -64,
		127, 127, 127, 127, -5, -111, 57, 0, -40, 45, 34, 0, -23, -33, 115, 104, -28, 127, 127, 0, -4, 99, -127, 0, 127, 96, -81, 0, -10, 40, -86, 50, 32, 127, 45, 0, -13, -80, -20, 0, 41, 127, -120, 0,
		91, -50, -45, -127, 0, -40, -30, 84, 0, 97, 78, -105, 0, 80, 69, -10, -61, -70, 92, 127, 0, 92, -68, 127, 0, -115, 127, 42, 0, -38, -120, -45, 0, -79, -75, -80, 0, 76, -6, 0, 0, 47, 76, -11,
	}},
	{parameters{40, 0, 100}, []sent{{1, 250, 5}}, 68, 250, []int{
		107, -80, -14, -48, -54, -105, 8, 120, -82, -62, 32, -24, 127, -127, -43, -24, 32, -127, -92, 100, 127, 127, -25, -127, 127, -127, -97, -110, 57, 127, 127, -127, 113, -107, -40, 21, 127, 55, -28, -127, 127, 76, 92, 44,
		-49, 0, 0, 0, 111, 0, 0, 0, -29, 0, 0, 0, 27, 0, 127, 0, -48, 0, 0, 0, -127, 0, 0, 0, -127, 0, 0, 0, -107, 0, 0, 0, -44, 0, 0, 0, 127, 0, 0, 0, 97, 0, 0, 0,
		0, -84, 0, 0, 0, -75, 0, 0, 0, -39, 0, 0, 0, -63, 0, -127, 0, 127, 0, 0, 0, -127, 0, 0, 0, 25, 0, 0, 0, -127, 0, 0, 0, -127, 0, 0, 0, 127, 0, 0, 0, 19, 0, 0,
	}},
	{parameters{60, 7, 70}, []sent{{3, 9, 0}, {0, 40, 8}, {3, 70, 4}}, 76, 119, []int{
		127, 127, 127, 127, 127, 127, 127, 56, -127, -127, -24, 121, -14, -63, -78, -37, 127, -3, 51, -112, -127, -96, 46, 13, -39, -108, 127, 92, -54, -44, -127, -94, -125, 127, 127, -39, 127, -54, 39, -124, 22, 51, -3, -52, 127, 12, 46, 31, -86, -24, 79, 101, -63, -14, -78, -43, -127, 112, 127, 43, -127, 24, 127, 98,
		127, 127, 127, 127, 127, 127, 127, 0, 0, 0, 0, 0, 0, 0, 0, 0, -127, 0, 0, 0, 0, 0, 0, 0, 0, 0, 0, 0, 0, 0, 0, 0, -127, 0, 0, 0, 0, 0, 0, 0, 0, 0, 0, 0, 0, 0, 0, 0, 0, 0, 0, 0, 0, 0, 0, 0, 0, 0, 0, 0, 0, 0, 0, 0,
		0, 71, 0, 0, 0, 0, 0, 0, 0, 0, 0, 0, 0, 0, 0, 0, 0, -127, 0, 0, 0, 0, 0, 0, 0, 0, 0, 0, 0, 0, 0, 0, 0, 37, 0, 0, 0, 0, 0, 0, 0, 0, 0, 0, 0, 0, 0, 0, 0, 0, 0, 0, 0, 0, 0, 0, 0, 0, 0, 0, 0, 0, 0, 0,
	}},
}

// bufferSums are buffers after transmissions, with the number of known and of received values and a sum over all values, from the same computation.
var bufferSums = []struct {
	parameters
	sent                 []sent
	known, received, sum int
}{
	{parameters{40, 0, 192}, []sent{{0, 132, 1}}, 132, 132, 116823},
	{parameters{40, 39, 16}, []sent{{2, 131072, 9}}, 79, 131072, 534426},
	{parameters{41, 3, 192}, []sent{{0, 129, 3}, {1, 129, 4}, {2, 129, 5}, {3, 129, 6}}, 135, 516, 192051},
	{parameters{60, 59, 288}, []sent{{1, 300, 2}}, 192, 300, 203674},
	{parameters{61, 60, 100}, []sent{{0, 17, 1}, {3, 5, 7}}, 126, 22, 397779},
	{parameters{92, 17, 300}, []sent{{0, 0, 1}, {2, 1, 1}}, 35, 1, 564909},
	{parameters{512, 100, 1000}, []sent{{3, 2000, 4}, {1, 803, 5}}, 999, 2803, 357055},
	{parameters{1024, 63, 3096}, []sent{{0, 1500, 7}, {2, 1500, 8}, {3, 1500, 9}, {1, 1500, 10}}, 3014, 6000, 285488},
	{parameters{3072, 15, 5000}, []sent{{2, 20000, 3}}, 4964, 20000, 953446},
	{parameters{6144, 0, 1048576}, []sent{{0, 9000, 1}, {2, 9000, 1}}, 18000, 18000, 571143},
	{parameters{6144, 6143, 18528}, []sent{{1, 6158, 2}}, 18444, 6158, 966189},
	{parameters{6144, 1000, 10000}, []sent{{0, 131072, 1}, {3, 100000, 2}}, 10600, 231072, 299689},
	{parameters{6143, 1, 18527}, []sent{{3, 18439, 11}, {0, 1, 12}}, 18441, 18440, 885980},
}

// Integers that are no K, no limit, no redundancy version and no soft value, some of them equal to one if they were cut.
var (
	noBlocks   = []int{0, 1, 38, 39, 6145, 6146, 12288, 1<<16 + 40, 1<<32 + 40, math.MaxInt32, math.MaxInt - 4, math.MaxInt - 3, math.MaxInt, -1, -4, -40, -6144, math.MinInt32, math.MinInt + 40, math.MinInt + 1, math.MinInt}
	noLimits   = []int{0, -1, -2, -192, -18528, math.MinInt32, math.MinInt + 192, math.MinInt + 1, math.MinInt}
	noVersions = []int{4, 5, 7, 8, 255, 256, 257, 1<<16 + 1, 1<<32 + 1, math.MaxInt32, math.MaxInt, -1, -2, -4, -255, math.MinInt32, math.MinInt + 1, math.MinInt}
	noValues   = []int{128, 129, 255, 256, 257, 1<<16 + 5, 1<<32 + 5, math.MaxInt32, math.MaxInt - 1, math.MaxInt, -128, -129, -255, -256, -257, -1 << 32, math.MinInt32, math.MinInt + 5, math.MinInt + 1, math.MinInt}
)

// noFillers returns integers that are no F for a K.
func noFillers(k int) []int {
	return []int{k, k + 1, k + 4, 2 * k, 1<<16 + k, 1 << 32, math.MaxInt32, math.MaxInt - k, math.MaxInt, -1, -2, -k, math.MinInt32, math.MinInt + 1, math.MinInt}
}

// some are parameters of blocks with and without dummy elements, filler bits and a limit, the least and the greatest of each among them.
var some = []parameters{
	{40, 0, 2}, {40, 0, 192}, {40, 0, 1000}, {40, 4, 1000}, {40, 39, 16}, {40, 39, 191}, {40, 39, math.MaxInt}, {41, 3, 100}, {59, 1, 150},
	{60, 0, 1}, {60, 7, 70}, {61, 60, 288}, {92, 17, 300}, {512, 100, 1000}, {1024, 63, 3096}, {3072, 15, 5000},
	{6143, 1, 18527}, {6144, 0, 18528}, {6144, 6143, 1544}, {6144, 6143, math.MaxInt},
}

// without are parameters of buffers without a usable element.
var without = []parameters{{40, 0, 1}, {40, 39, 3}, {40, 39, 15}, {60, 1, 1}, {6144, 0, 1}, {6144, 6143, 1543}}

// state is the state of a buffer by its definition.
type state struct {
	parameters
	values   []int
	received int
}

// initial returns the state of a new buffer.
func initial(p parameters) state {
	values := make([]int, 3*(p.k+4))
	for i := range values {
		if i < p.f || i >= p.k+4 && i < p.k+4+p.f {
			values[i] = 127
		}
	}
	return state{p, values, 0}
}

// after returns the state after a further transmission.
func (s state) after(t *testing.T, rv int, values []int) state {
	t.Helper()
	s.values = slices.Clone(s.values)
	for i, position := range selected(t, s.parameters, rv, len(values)) {
		s.values[position] = min(max(s.values[position]+values[i], -127), 127)
	}
	s.received += len(values)
	return s
}

// streams returns the values of the three streams.
func (s state) streams() [3][]int {
	var l [3][]int
	for i, v := range s.values {
		l[i/(s.k+4)] = append(l[i/(s.k+4)], v)
	}
	return l
}

// known counts the values that are not 0.
func (s state) known() int {
	n := 0
	for _, v := range s.values {
		if v != 0 {
			n++
		}
	}
	return n
}

func (s state) equals(o state) bool {
	return s.parameters == o.parameters && s.received == o.received && slices.Equal(s.values, o.values)
}

// selected returns the positions of a selection.
func selected(t *testing.T, p parameters, rv, n int) []int {
	t.Helper()
	l, e := ratematch.Positions(p.k, p.f, p.limit, rv, n)
	if e != api.OK {
		t.Fatalf("Positions of %v, redundancy version %d, %d elements: error %v", p, rv, n, e)
	}
	return l
}

// usable returns the number of usable elements.
func usable(t *testing.T, p parameters) int {
	t.Helper()
	n, e := ratematch.Usable(p.k, p.f, p.limit)
	if e != api.OK {
		t.Fatalf("Usable of %v: error %v", p, e)
	}
	return n
}

// series returns the first n values of a series.
func series(n, which int) []int {
	l := make([]int, n)
	for i := range l {
		l[i] = (i*i*31+i*11+which*57)%255 - 127
	}
	return l
}

// sum returns a sum over values that depends on their order.
func sum(l []int) int {
	s := 0
	for i, v := range l {
		s += (i + 1) * (v + 128)
	}
	return s % 1000003
}

func randomSoft(random *rand.Rand, n int) []int {
	l := make([]int, n)
	for i := range l {
		l[i] = random.Intn(255) - 127
	}
	return l
}

// with returns a slice with another element at an index.
func with(l []int, i, element int) []int {
	c := slices.Clone(l)
	c[i] = element
	return c
}

// overwrite changes every element of a slice, and those for which it has room.
func overwrite(l []int, v int) {
	for i := range l[:cap(l)] {
		l[:cap(l)][i] = v
	}
}

func created(t *testing.T, p parameters) *dematch.Buffer {
	t.Helper()
	b, e := dematch.New(p.k, p.f, p.limit)
	if b == nil || e != api.OK {
		t.Fatalf("New of %v: error %v", p, e)
	}
	return b
}

// filled returns a buffer after a transmission, and its state.
func filled(t *testing.T, p parameters, rv int, values ...int) (*dematch.Buffer, state) {
	t.Helper()
	b := created(t, p)
	expectAdd(t, b, rv, values, api.OK)
	return b, initial(p).after(t, rv, values)
}

func expectAdd(t *testing.T, b *dematch.Buffer, rv int, values []int, want api.Errno) {
	t.Helper()
	if e := b.Add(rv, values...); e != want {
		t.Errorf("Add(%d, %d values %v): error %v; want %v", rv, len(values), values[:min(len(values), 20)], e, want)
	}
}

// expectState expects what every method of a buffer returns.
func expectState(t *testing.T, b *dematch.Buffer, want state) {
	t.Helper()
	if got := b.Values(); !slices.Equal(got, want.values) {
		t.Errorf("Values of %v: %d values, or not as defined: %s", want.parameters, len(got), difference(got, want.values))
	}
	var got [3][]int
	got[0], got[1], got[2] = b.Streams()
	for i, stream := range want.streams() {
		if !slices.Equal(got[i], stream) {
			t.Errorf("Streams of %v: %d values of stream %d, or not as defined: %s", want.parameters, len(got[i]), i, difference(got[i], stream))
		}
	}
	if n := b.Known(); n != want.known() {
		t.Errorf("Known of %v = %d; want %d", want.parameters, n, want.known())
	}
	if n := b.Received(); n != want.received {
		t.Errorf("Received of %v = %d; want %d", want.parameters, n, want.received)
	}
}

// difference shows where two slices differ first.
func difference(got, want []int) string {
	for i := range min(len(got), len(want)) {
		if got[i] != want[i] {
			return fmt.Sprintf("element %d is %d; want %d", i, got[i], want[i])
		}
	}
	return fmt.Sprintf("want %d values", len(want))
}

// expectNew expects an error, or a new buffer.
func expectNew(t *testing.T, p parameters, want api.Errno) {
	t.Helper()
	b, e := dematch.New(p.k, p.f, p.limit)
	if e != want || (b == nil) != (want != api.OK) {
		t.Errorf("New of %v: a buffer is %t, error %v; want error %v", p, b != nil, e, want)
		return
	}
	if b != nil {
		expectState(t, b, initial(p))
	}
}

func expectSame(t *testing.T, a, b *dematch.Buffer, want bool) {
	t.Helper()
	if dematch.Same(a, b) != want || dematch.Same(b, a) != want {
		t.Errorf("Same is %t, and %t the other way round; want %t", dematch.Same(a, b), dematch.Same(b, a), want)
	}
}

func TestExamples(t *testing.T) {
	expectNew(t, parameters{39, 0, 1000}, api.ErrArg)
	expectNew(t, parameters{40, 40, 1000}, api.ErrArg)
	if n := created(t, parameters{40, 0, 1000}).Known(); n != 0 {
		t.Errorf("Known = %d; want 0", n)
	}
	b := created(t, parameters{40, 4, 1000})
	if l := b.Values(); b.Known() != 8 || l[3] != 127 || l[4] != 0 {
		t.Errorf("Known = %d, values %v; want 8, and 127 and 0 at the positions 3 and 4", b.Known(), l)
	}
	b = created(t, parameters{40, 0, 1000})
	expectAdd(t, b, 0, []int{100, 100, 100, 100, 100}, api.OK)
	if b.Known() != 5 {
		t.Errorf("Known = %d; want 5", b.Known())
	}
	expectAdd(t, b, 0, []int{100, 100, 100, 100, 100}, api.OK)
	if slices.Max(b.Values()) != 127 || b.Received() != 10 {
		t.Errorf("greatest value %d, Received = %d; want 127, 10", slices.Max(b.Values()), b.Received())
	}
	expectAdd(t, b, 4, []int{1}, api.ErrArg)
}

func TestKnownBuffers(t *testing.T) {
	for _, x := range buffers {
		b := created(t, x.parameters)
		for _, s := range x.sent {
			expectAdd(t, b, s.rv, series(s.n, s.series), api.OK)
		}
		want := state{x.parameters, x.values, x.received}
		expectState(t, b, want)
		if b.Known() != x.known {
			t.Errorf("Known of %v = %d; want %d", x.parameters, b.Known(), x.known)
		}
	}
	for _, x := range bufferSums {
		b := created(t, x.parameters)
		for _, s := range x.sent {
			expectAdd(t, b, s.rv, series(s.n, s.series), api.OK)
		}
		if b.Known() != x.known || b.Received() != x.received || sum(b.Values()) != x.sum {
			t.Errorf("%v: Known = %d, Received = %d, sum %d; want %d, %d, %d", x.parameters, b.Known(), b.Received(), sum(b.Values()), x.known, x.received, x.sum)
		}
	}
}

// P12.1: New

// TestNewBuffersOfEveryBlock has another number of filler bits and another limit for each K.
func TestNewBuffersOfEveryBlock(t *testing.T) {
	random := rand.New(rand.NewSource(1))
	for k := 40; k <= 6144; k++ {
		expectNew(t, parameters{k, random.Intn(k), 1 + random.Intn(4*k)}, api.OK)
	}
}

func TestNewBuffersOfEveryFiller(t *testing.T) {
	for _, k := range []int{40, 60, 61, 6144} {
		for f := 0; f < k; f += 1 + k/100 {
			for _, limit := range []int{1, 192, math.MaxInt} {
				expectNew(t, parameters{k, f, limit}, api.OK)
			}
		}
		expectNew(t, parameters{k, k - 1, 1}, api.OK)
	}
	for limit := 1; limit <= 400; limit++ {
		expectNew(t, parameters{40, 0, limit}, api.OK)
		expectNew(t, parameters{40, 39, limit}, api.OK)
	}
	for _, p := range slices.Concat(some, without) {
		expectNew(t, p, api.OK)
	}
}

func TestNoNewBuffers(t *testing.T) {
	for k := -7000; k <= 13000; k++ {
		if k < 40 || k > 6144 {
			expectNew(t, parameters{k, 0, 192}, api.ErrArg)
		}
	}
	for _, k := range noBlocks {
		for _, f := range []int{-1, 0, 1, 39, k - 1, k} {
			for _, limit := range []int{0, 1, 192, math.MaxInt} {
				expectNew(t, parameters{k, f, limit}, api.ErrArg)
			}
		}
	}
	for _, p := range slices.Concat(some, without) {
		for _, f := range noFillers(p.k) {
			expectNew(t, parameters{p.k, f, p.limit}, api.ErrArg)
		}
		for _, limit := range noLimits {
			expectNew(t, parameters{p.k, p.f, limit}, api.ErrArg)
		}
	}
}

// P12.1: Add

// TestAddOneAfterAnother has transmissions of no values, of one, of nearly as many as there are usable elements, and of several times as many.
func TestAddOneAfterAnother(t *testing.T) {
	random := rand.New(rand.NewSource(2))
	for _, p := range some {
		b, want := created(t, p), initial(p)
		n := usable(t, p)
		for _, count := range []int{1, 0, n, n - 1, n + 1, random.Intn(n + 1), 2*n + 1, 5 * n, 1, n / 2, n} {
			rv, values := random.Intn(4), randomSoft(random, count)
			expectAdd(t, b, rv, values, api.OK)
			want = want.after(t, rv, values)
			expectState(t, b, want)
		}
	}
}

func TestAddEveryVersion(t *testing.T) {
	for _, p := range some {
		var seen []state
		n := usable(t, p)
		for rv := range 4 {
			for _, count := range []int{1, 7, n, n + 3} {
				b, want := filled(t, p, rv, series(count, rv)...)
				expectState(t, b, want)
				seen = append(seen, want)
			}
		}
		if p.limit > p.k && n > 40 && slices.Equal(seen[0].values, seen[4].values) {
			t.Errorf("%v: the first two redundancy versions start at the same position", p)
		}
	}
}

func TestAddEveryNumberOfValues(t *testing.T) {
	for _, p := range []parameters{{40, 0, 192}, {40, 13, 100}, {61, 60, 288}} {
		for count := range 300 {
			b, want := filled(t, p, count%4, series(count, count)...)
			expectState(t, b, want)
		}
	}
}

func TestAddOfEveryLimit(t *testing.T) {
	for _, f := range []int{0, 1, 20, 39} {
		for limit := 16; limit <= 200; limit++ {
			b, want := filled(t, parameters{40, f, limit}, limit%4, series(limit, f)...)
			expectState(t, b, want)
		}
	}
}

// TestAddEachSoftValueToEach has a buffer with one usable element, at the position 0.
func TestAddEachSoftValueToEach(t *testing.T) {
	b := created(t, parameters{60, 0, 1})
	expect := func(v, w int) {
		t.Helper()
		if got := b.Values()[0]; got != min(max(v+w, -127), 127) {
			t.Errorf("the sum of %d and %d is %d", v, w, got)
		}
		if e := b.Reset(); e != api.OK {
			t.Errorf("Reset: error %v", e)
		}
	}
	for v := -127; v <= 127; v++ {
		for w := -127; w <= 127; w++ {
			expectAdd(t, b, 0, []int{v, w}, api.OK)
			expect(v, w)
		}
		expectAdd(t, b, 0, []int{v}, api.OK)
		expectAdd(t, b, 3, []int{-v / 2}, api.OK)
		expect(v, -v/2)
	}
}

// TestAddInOrder has values whose sum depends on their order, as sums are saturated one after another.
func TestAddInOrder(t *testing.T) {
	for _, x := range []struct {
		values []int
		want   int
	}{
		{[]int{100, 100, -100}, 27},
		{[]int{100, -100, 100}, 100},
		{[]int{-100, 100, 100}, 100},
		{[]int{-100, -100, 100}, -27},
		{[]int{127, 127, 127, -127, -1}, -1},
	} {
		b, want := filled(t, parameters{60, 0, 1}, 1, x.values...)
		expectState(t, b, want)
		one := created(t, parameters{60, 0, 1})
		for _, v := range x.values {
			expectAdd(t, one, 2, []int{v}, api.OK)
		}
		if b.Values()[0] != x.want || one.Values()[0] != x.want || !dematch.Same(b, one) {
			t.Errorf("the sums of %v are %d at once and %d one by one; want %d", x.values, b.Values()[0], one.Values()[0], x.want)
		}
	}
}

// TestAddNothing is no error, whether there are usable elements or not.
func TestAddNothing(t *testing.T) {
	for _, p := range slices.Concat(some, without) {
		b := created(t, p)
		for rv := range 4 {
			expectAdd(t, b, rv, nil, api.OK)
			expectAdd(t, b, rv, []int{}, api.OK)
		}
		expectState(t, b, initial(p))
		expectSame(t, b, created(t, p), true)
	}
}

func TestTheLongestTransmissions(t *testing.T) {
	random := rand.New(rand.NewSource(3))
	for _, p := range []parameters{{40, 0, 192}, {40, 39, 16}, {60, 0, 1}, {6144, 0, 18528}, {6144, 6143, 1544}} {
		values := randomSoft(random, 1<<17+2)
		b, want := filled(t, p, 1, values[:1<<17-1]...)
		expectState(t, b, want)
		expectAdd(t, b, 2, values[:1<<17], api.OK)
		want = want.after(t, 2, values[:1<<17])
		expectState(t, b, want)
		expectAdd(t, b, 2, values[:1<<17+1], api.ErrArg)
		expectAdd(t, b, 2, values, api.ErrArg)
		expectAdd(t, b, 0, make([]int, 1<<18), api.ErrArg)
		expectAdd(t, b, 0, make([]int, 1<<20), api.ErrArg)
		expectState(t, b, want)
	}
}

func TestAddNoVersion(t *testing.T) {
	for _, p := range some {
		b, want := filled(t, p, 1, series(30, 1)...)
		for _, rv := range noVersions {
			for _, count := range []int{0, 1, 5, 200} {
				expectAdd(t, b, rv, series(count, 2), api.ErrArg)
			}
		}
		expectState(t, b, want)
	}
	b := created(t, parameters{40, 0, 192})
	for rv := -300; rv <= 300; rv++ {
		if rv < 0 || rv > 3 {
			expectAdd(t, b, rv, []int{1}, api.ErrArg)
		}
	}
	expectState(t, b, initial(parameters{40, 0, 192}))
}

func TestAddNoSoftValue(t *testing.T) {
	for _, p := range some {
		b, want := filled(t, p, 2, series(30, 3)...)
		for _, v := range noValues {
			expectAdd(t, b, 0, []int{v}, api.ErrArg)
			expectAdd(t, b, 3, []int{-v, v}, api.ErrArg)
			for _, i := range []int{0, 1, 50, 198, 199} {
				expectAdd(t, b, 1, with(series(200, 4), i, v), api.ErrArg)
			}
		}
		expectState(t, b, want)
		expectAdd(t, b, 1, []int{127, -127}, api.OK)
		expectState(t, b, want.after(t, 1, []int{127, -127}))
	}
	for i := range 150 {
		b, want := filled(t, parameters{40, 5, 192}, 2, series(30, 3)...)
		expectAdd(t, b, 1, with(series(150, 4), i, 128), api.ErrArg)
		expectAdd(t, b, 1, with(series(150, 4), i, -128), api.ErrArg)
		expectState(t, b, want)
	}
}

func TestAddWithoutUsableElements(t *testing.T) {
	for _, p := range without {
		b := created(t, p)
		for rv := range 4 {
			for _, count := range []int{1, 2, 132, 1<<17 - 1, 1 << 17} {
				expectAdd(t, b, rv, series(count, 1), api.ErrNone)
				expectAdd(t, b, rv, make([]int, count), api.ErrNone)
			}
		}
		expectState(t, b, initial(p))
		expectSame(t, b, created(t, p), true)
	}
}

// P12.1: Reset

func TestReset(t *testing.T) {
	for _, p := range some {
		b, want := filled(t, p, 1, series(100, 1)...)
		for range 2 {
			if e := b.Reset(); e != api.OK {
				t.Errorf("Reset of %v: error %v", p, e)
			}
			expectState(t, b, initial(p))
			expectSame(t, b, created(t, p), true)
		}
		expectAdd(t, b, 1, series(100, 1), api.OK)
		expectState(t, b, want)
	}
	for _, p := range without {
		b := created(t, p)
		if e := b.Reset(); e != api.OK {
			t.Errorf("Reset of %v: error %v", p, e)
		}
		expectState(t, b, initial(p))
	}
}

// P12.2

// TestEachPositionAlone has a single value, at every usable position, in every stream.
func TestEachPositionAlone(t *testing.T) {
	for _, p := range []parameters{{40, 0, 1000}, {40, 7, 192}, {60, 20, 288}} {
		n := usable(t, p)
		var seen []int
		for i, position := range selected(t, p, 0, n) {
			b, _ := filled(t, p, 0, with(make([]int, n), i, -9)...)
			want := initial(p)
			want.values[position] = -9
			want.received = n
			expectState(t, b, want)
			seen = append(seen, position)
		}
		if len(seen) != 3*(p.k+4)-2*p.f {
			t.Errorf("%v has %d usable positions; want all but the filler positions", p, len(seen))
		}
	}
}

func TestStreamsTogetherAreTheValues(t *testing.T) {
	for _, p := range slices.Concat(some, without) {
		b := created(t, p)
		b.Add(1, series(3*p.k, 2)...)
		systematic, first, second := b.Streams()
		if len(systematic) != p.k+4 || len(first) != p.k+4 || len(second) != p.k+4 {
			t.Errorf("Streams of %v: %d, %d and %d values; want %d", p, len(systematic), len(first), len(second), p.k+4)
		}
		if !slices.Equal(slices.Concat(systematic, first, second), b.Values()) {
			t.Errorf("Streams of %v are not the values", p)
		}
	}
}

// P12.3

// TestKnown has values that become unknown again.
func TestKnown(t *testing.T) {
	expect := func(b *dematch.Buffer, want int) {
		t.Helper()
		if got := b.Known(); got != want {
			t.Errorf("Known = %d; want %d", got, want)
		}
	}
	for _, p := range some {
		b, n := created(t, p), usable(t, p)
		expect(b, 2*p.f)
		expectAdd(t, b, 0, make([]int, n), api.OK)
		expect(b, 2*p.f)
		expectAdd(t, b, 0, slices.Repeat([]int{-1}, n), api.OK)
		expect(b, 2*p.f+n)
		expectAdd(t, b, 1, slices.Repeat([]int{1}, n-1), api.OK)
		expect(b, 2*p.f+1)
		expectAdd(t, b, 1, slices.Repeat([]int{1}, n), api.OK)
		expect(b, 2*p.f+n-1)
		expectAdd(t, b, 2, slices.Repeat([]int{127}, n), api.OK)
		expect(b, 2*p.f+n)
	}
	for v := -127; v <= 127; v++ {
		b, _ := filled(t, parameters{40, 3, 192}, 0, v, v, 1)
		switch v {
		case 0:
			expect(b, 7)
		default:
			expect(b, 9)
		}
	}
}

func TestReceived(t *testing.T) {
	for _, p := range some {
		b := created(t, p)
		total := 0
		for rv := range 4 {
			for _, count := range []int{0, 1, 1, 5, 500} {
				expectAdd(t, b, rv, make([]int, count), api.OK)
				total += count
				b.Add(rv, 128)
				b.Add(-1, 1, 2, 3)
				if b.Received() != total {
					t.Errorf("Received of %v = %d; want %d", p, b.Received(), total)
				}
			}
		}
	}
}

func TestClone(t *testing.T) {
	for _, p := range some {
		b, want := filled(t, p, 1, series(100, 1)...)
		c := b.Clone()
		expectState(t, c, want)
		expectSame(t, b, c, true)

		expectAdd(t, b, 2, series(50, 2), api.OK)
		expectState(t, b, want.after(t, 2, series(50, 2)))
		expectState(t, c, want)
		expectSame(t, b, c, false)

		d := c.Clone()
		expectAdd(t, c, 2, series(50, 2), api.OK)
		expectSame(t, b, c, true)
		expectState(t, d, want)

		c.Reset()
		expectState(t, c, initial(p))
		expectState(t, b, want.after(t, 2, series(50, 2)))
		expectState(t, d, want)
	}
	for _, p := range without {
		b := created(t, p)
		c := b.Clone()
		expectSame(t, b, c, true)
		expectAdd(t, c, 0, []int{1}, api.ErrNone)
		expectState(t, c, initial(p))
	}
}

// TestSame compares each buffer with each, among them some that differ in only one of K, F, limit, Received and each value.
func TestSame(t *testing.T) {
	var built []*dematch.Buffer
	var states []state
	add := func(p parameters, rv int, values ...int) {
		t.Helper()
		b, s := filled(t, p, rv, values...)
		expectState(t, b, s)
		built, states = append(built, b), append(states, s)
	}
	filler := make([]int, 132)
	for i, position := range selected(t, parameters{40, 0, 1000}, 0, 132) {
		if position == 0 || position == 44 {
			filler[i] = 127
		}
	}
	add(parameters{40, 0, 1000}, 0, filler...) // the same as one filler bit
	add(parameters{40, 1, 1000}, 0, make([]int, 132)...)
	for _, p := range []parameters{{40, 0, 192}, {40, 0, 193}, {40, 0, 1000}, {40, 1, 192}, {41, 0, 192}, {41, 1, 192}, {60, 0, 192}, {6144, 0, 18528}, {6144, 0, 18529}} {
		add(p, 0)
		add(p, 0, 0)
		add(p, 1, 0)
		add(p, 0, 0, 0)
		add(p, 0, 5)
		add(p, 1, 5)
		add(p, 0, -5)
		add(p, 0, 5, 6)
		add(p, 0, 6, 5)
		add(p, 0, slices.Repeat([]int{127}, 150)...)
		add(p, 1, slices.Repeat([]int{127}, 150)...)
	}
	for i := range 132 {
		add(parameters{40, 0, 192}, 0, with(make([]int, 132), i, 1)...)
	}
	for i, a := range states {
		for j, b := range states[:i+1] {
			expectSame(t, built[i], built[j], a.equals(b))
		}
		expectSame(t, built[i], built[i].Clone(), true)
	}
	if !states[0].equals(state{states[0].parameters, states[1].values, states[1].received}) {
		t.Error("there are no buffers that differ in F only")
	}
}

// TestSameAfterOtherCalls has the same state after other transmissions.
func TestSameAfterOtherCalls(t *testing.T) {
	p := parameters{40, 0, 1000}
	a, _ := filled(t, p, 0, 5, 6) // at other positions than the next one
	expectAdd(t, a, 1, []int{7}, api.OK)
	b, _ := filled(t, p, 1, 7)
	expectSame(t, a, b, false)
	expectAdd(t, b, 0, []int{5, 6}, api.OK)
	expectSame(t, a, b, true)
	c, _ := filled(t, p, 0, 1, 1, 1)
	c.Reset()
	expectAdd(t, c, 0, []int{2, 6}, api.OK)
	expectAdd(t, c, 1, []int{7}, api.OK)
	expectSame(t, a, c, false)
	expectAdd(t, c, 0, []int{3}, api.OK)
	expectSame(t, a, c, false) // one more received
	expectAdd(t, a, 3, []int{0}, api.OK)
	expectSame(t, a, c, true)
}

// none returns a nil and a zero Buffer.
func none() []*dematch.Buffer { return []*dematch.Buffer{nil, {}} }

func TestNoBuffer(t *testing.T) {
	for _, b := range none() {
		for rv := -1; rv <= 4; rv++ {
			for _, values := range [][]int{nil, {}, {0}, {1, 2}, {128}, {math.MinInt}, make([]int, 1<<17), make([]int, 1<<17+1)} {
				expectAdd(t, b, rv, values, api.ErrNil)
			}
		}
		for range 2 {
			if e := b.Reset(); e != api.ErrNil {
				t.Errorf("Reset: error %v; want ErrNil", e)
			}
			x, y, z := b.Streams()
			if b.Values() != nil || x != nil || y != nil || z != nil || b.Known() != 0 || b.Received() != 0 || b.Clone() != nil {
				t.Error("no buffer has values, a number of them, or a clone")
			}
		}
		for _, o := range none() {
			expectSame(t, b, o, true)
		}
		expectSame(t, b, b, true)
		expectSame(t, b, b.Clone(), true)
		for _, p := range slices.Concat(some, without) {
			expectSame(t, b, created(t, p), false)
		}
	}
}

// The order of the errors

func TestErrArgBeforeErrNone(t *testing.T) {
	for _, p := range without {
		b := created(t, p)
		for _, rv := range noVersions {
			expectAdd(t, b, rv, nil, api.ErrArg)
			expectAdd(t, b, rv, []int{1}, api.ErrArg)
		}
		for _, v := range noValues {
			expectAdd(t, b, 0, []int{v}, api.ErrArg)
			expectAdd(t, b, 3, []int{1, 2, v}, api.ErrArg)
		}
		expectAdd(t, b, 0, make([]int, 1<<17+1), api.ErrArg)
		expectAdd(t, b, 0, make([]int, 1<<18), api.ErrArg)
		expectState(t, b, initial(p))
	}
}

// P12.4

// wordWithFillers returns a random word whose filler bits are 0.
func wordWithFillers(random *rand.Rand, p parameters) []byte {
	word := make([]byte, 3*(p.k+4))
	for i, v := range initial(p).values {
		if v == 0 {
			word[i] = byte(random.Intn(2))
		}
	}
	return word
}

// ideal returns ideal soft values of the selected bits of a word, each of them with a magnitude of its own that is at least the given one.
func ideal(t *testing.T, random *rand.Rand, p parameters, word []byte, rv, n, least int) []int {
	t.Helper()
	bits, e := ratematch.Match(word, p.f, p.limit, rv, n)
	if e != api.OK {
		t.Fatalf("Match of %v: error %v", p, e)
	}
	var values []int
	for _, bit := range bits {
		v, _ := soft.Ideal([]byte{bit}, least+random.Intn(128-least))
		values = append(values, v...)
	}
	return values
}

func expectNothingWrong(t *testing.T, b *dematch.Buffer, word []byte) {
	t.Helper()
	wrong, unknown, e := soft.Compare(b.Values(), word)
	if wrong != 0 || unknown != len(word)-b.Known() || e != api.OK {
		t.Errorf("%d values have the wrong sign, %d are unknown and %d known, error %v", wrong, unknown, b.Known(), e)
	}
}

func TestIdealValuesLeaveNothingWrong(t *testing.T) {
	random := rand.New(rand.NewSource(4))
	for _, p := range some {
		b, word := created(t, p), wordWithFillers(random, p)
		expectNothingWrong(t, b, word)
		for range 6 {
			rv, n := random.Intn(4), random.Intn(2*usable(t, p)+2)
			expectAdd(t, b, rv, ideal(t, random, p, word, rv, n, random.Intn(2)), api.OK)
			expectNothingWrong(t, b, word)
		}
	}
}

// TestIdealValuesOfTurboWords has words of blocks whose filler bits are 0.
func TestIdealValuesOfTurboWords(t *testing.T) {
	random := rand.New(rand.NewSource(5))
	for _, p := range []parameters{{40, 0, 1000}, {40, 17, 192}, {40, 39, 150}, {512, 64, 1000}, {6144, 1000, math.MaxInt}} {
		block := make([]byte, p.k)
		for i := p.f; i < p.k; i++ {
			block[i] = byte(random.Intn(2))
		}
		word, e := turbo.Encode(block)
		if e != api.OK {
			t.Fatal(p, e)
		}
		b := created(t, p)
		for rv := range 4 {
			n := usable(t, p) * (rv + 1) / 3
			expectAdd(t, b, rv, ideal(t, random, p, word, rv, n, 0), api.OK)
			expectNothingWrong(t, b, word)
		}
		expectAdd(t, b, 0, ideal(t, random, p, word, 0, usable(t, p), 127), api.OK)
		expectNothingWrong(t, b, word)
		if p.limit >= 3*(p.k+35) && !slices.Equal(hard(t, b), word) {
			t.Errorf("%v: the decisions are not the word", p)
		}
	}
}

func hard(t *testing.T, b *dematch.Buffer) []byte {
	t.Helper()
	l, e := soft.Hard(b.Values())
	if e != api.OK {
		t.Errorf("Hard: error %v", e)
	}
	return l
}

func TestEveryUsablePositionIsKnown(t *testing.T) {
	random := rand.New(rand.NewSource(6))
	for _, p := range some {
		word, n := wordWithFillers(random, p), usable(t, p)
		for rv := range 4 {
			for _, missing := range []int{0, 1} {
				b := created(t, p)
				expectAdd(t, b, rv, ideal(t, random, p, word, rv, n-missing, 1), api.OK)
				if b.Known() != 2*p.f+n-missing {
					t.Errorf("%v: %d values are known after %d; want %d", p, b.Known(), n-missing, 2*p.f+n-missing)
				}
				values := b.Values()
				for i, position := range selected(t, p, rv, n) {
					if (values[position] != 0) != (i < n-missing) {
						t.Errorf("%v: the value at the position %d is %d after %d", p, position, values[position], n-missing)
					}
				}
			}
		}
	}
}

// P1 and the document's section Rules

// TestValuesAreNeitherModifiedNorKept looks at the elements beside the values, too, and at calls with errors.
func TestValuesAreNeitherModifiedNorKept(t *testing.T) {
	for _, p := range append([]parameters{{40, 39, 15}}, some...) {
		for _, v := range []int{1, 127, 128, math.MinInt} {
			whole := with(series(300, 3), 100, v)
			kept := slices.Clone(whole)
			b := created(t, p)
			for rv := -1; rv <= 4; rv++ {
				for _, end := range []int{50, 90, 250} {
					b.Add(rv, whole[20:end]...)
				}
			}
			if !slices.Equal(whole, kept) {
				t.Errorf("Add of %v changes its values, or elements beside them", p)
			}
			want := state{p, b.Values(), b.Received()}
			overwrite(whole, 55)
			expectState(t, b, want)
		}
	}
}

func TestResultsShareNoMemory(t *testing.T) {
	for _, p := range some {
		b, want := filled(t, p, 2, series(150, 3)...)
		first, second := b.Values(), b.Values()
		overwrite(first, 99)
		expectState(t, b, want)
		if !slices.Equal(second, want.values) {
			t.Errorf("Values of %v share memory with each other", p)
		}
		for i := range 3 {
			var l, o [3][]int
			l[0], l[1], l[2] = b.Streams()
			o[0], o[1], o[2] = b.Streams()
			overwrite(l[i], 99)
			_ = append(l[i], 99, 99)
			expectState(t, b, want)
			for j, stream := range want.streams() {
				if j != i && !slices.Equal(l[j], stream) || !slices.Equal(o[j], stream) {
					t.Errorf("Streams of %v share memory with each other", p)
				}
			}
		}
		// Results stay as they are when the buffer goes on.
		x, y, z := b.Streams()
		expectAdd(t, b, 1, slices.Repeat([]int{127}, 300), api.OK)
		b.Reset()
		if !slices.Equal(second, want.values) || !slices.Equal(slices.Concat(x, y, z), want.values) {
			t.Errorf("results of %v share memory with the buffer", p)
		}
	}
}

// TestCapacityDoesNotCount has more elements behind the end of the values.
func TestCapacityDoesNotCount(t *testing.T) {
	values := append(series(20, 1), 128, math.MaxInt)
	b, want := filled(t, parameters{40, 0, 192}, 0, values[:20]...)
	expectState(t, b, want)
	expectAdd(t, b, 0, values[:21], api.ErrArg)
	expectAdd(t, b, 0, values[:0], api.OK)
	expectState(t, b, want)
}

// TestBuffersDoNotDisturbEachOther uses several buffers in turn.
func TestBuffersDoNotDisturbEachOther(t *testing.T) {
	random := rand.New(rand.NewSource(7))
	var built []*dematch.Buffer
	var states []state
	for _, p := range slices.Concat(some, some) {
		built, states = append(built, created(t, p)), append(states, initial(p))
	}
	for range 300 {
		i, rv, values := random.Intn(len(built)), random.Intn(4), randomSoft(random, random.Intn(200))
		expectAdd(t, built[i], rv, values, api.OK)
		states[i] = states[i].after(t, rv, values)
		expectAdd(t, built[random.Intn(len(built))], rv, append(values, 128), api.ErrArg)
		if random.Intn(10) == 0 {
			built[i].Reset()
			states[i] = initial(states[i].parameters)
		}
	}
	for i, b := range built {
		expectState(t, b, states[i])
	}
}

// TestCopiesOfAValue copies what a pointer to a Buffer points at.
func TestCopiesOfAValue(t *testing.T) {
	for _, p := range some {
		b, want := filled(t, p, 1, series(60, 1)...)
		c := *b
		expectAdd(t, b, 2, series(50, 2), api.OK)
		expectState(t, &c, want)
		b.Reset()
		expectAdd(t, &c, 3, series(50, 3), api.OK)
		expectState(t, b, initial(p))
		expectState(t, &c, want.after(t, 3, series(50, 3)))
	}
}

// TestReadingChangesNothing calls what returns no error between transmissions.
func TestReadingChangesNothing(t *testing.T) {
	for _, p := range some {
		b, want := filled(t, p, 3, series(77, 5)...)
		for range 3 {
			b.Values()
			b.Streams()
			b.Known()
			b.Received()
			b.Clone().Reset()
			dematch.Same(b, created(t, p))
			expectState(t, b, want)
		}
		expectAdd(t, b, 0, series(99, 6), api.OK)
		expectState(t, b, want.after(t, 0, series(99, 6)))
	}
}

// TestAnyArguments calls with integers of any kind, which never panics and returns the error that is listed first.
func TestAnyArguments(t *testing.T) {
	random := rand.New(rand.NewSource(8))
	anything := func(l ...int) int {
		if random.Intn(8) == 0 {
			l = slices.Concat(noBlocks, noLimits, noVersions, noValues)
		}
		return l[random.Intn(len(l))]
	}
	for range 10000 {
		p := parameters{anything(40, 41, 60, 6144), anything(0, 1, 39, 6143), anything(1, 3, 192, math.MaxInt)}
		isBuffer := p.k >= 40 && p.k <= 6144 && p.f >= 0 && p.f < p.k && p.limit >= 1
		b, e := dematch.New(p.k, p.f, p.limit)
		if isBuffer != (e == api.OK) || isBuffer != (b != nil) {
			t.Fatalf("New of %v: a buffer is %t, error %v", p, b != nil, e)
		}
		rv, values := anything(0, 1, 2, 3), []int{anything(1, -1, 127, -127), 5, anything(0, 1, 2)}[:random.Intn(4)]
		want := api.OK
		switch {
		case !isBuffer:
			want = api.ErrNil
		case rv < 0 || rv > 3 || !soft.Valid(values):
			want = api.ErrArg
		case len(values) > 0 && usable(t, p) == 0:
			want = api.ErrNone
		}
		expectAdd(t, b, rv, values, want)
	}
}
