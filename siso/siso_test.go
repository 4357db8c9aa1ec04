package siso_test

import (
	"fmt"
	"iter"
	"math"
	"math/rand"
	"slices"
	"testing"

	"userplane/api"
	"userplane/siso"
)

// observation is an observation.
type observation struct{ systematic, parity, apriori []int }

// result is what the functions return for an observation.
type result struct {
	total, extrinsic []int
	bits             []byte
	greatest         int
	forward          []int
}

// known are observations of k input bits from series, with their results, from a computation of its own that uses nothing of this program.
var known = []struct {
	k, series int
	result
}{
	{1, 1, result{[]int{-41}, []int{-33}, []byte{1}, 5, []int{105, -21, 33, 5}}},
	{2, 2, result{[]int{-385, -43}, []int{-127, 7}, []byte{1, 1}, 439, []int{234, 236, 407, 403, 439}}},
	{3, 3, result{[]int{71, 122, 71}, []int{70, 45, 42}, []byte{0, 0, 0}, 436, []int{63, 122, 214, 242, 326, 436}}},
	{5, 4, result{[]int{-152, -152, -202, -202, -152}, []int{-127, -54, -56, -114, -36}, []byte{1, 1, 1, 1, 1}, 759, []int{108, 129, 306, 430, 525, 696, 764, 759}}},
	{8, 5, result{
		[]int{80, 80, -80, 80, -80, -80, -80, 146}, []int{97, 34, -50, 12, -67, -120, -74, 48}, []byte{0, 0, 1, 0, 1, 1, 1, 0},
		1088, []int{24, 174, 222, 410, 504, 604, 642, 839, 908, 1066, 1088},
	}},
	{40, 6, result{
		[]int{-104, -80, 80, -177, -201, -117, 66, 66, -200, -91, 12, 12, 109, -235, 12, -12, 12, 12, -145, -109, 84, 120, -66, -66, 149, 154, -142, -142, 197, 154, -149, -201, 142, -183, 215, 182, -257, -141, -183, 173},
		[]int{-126, 20, -15, -75, -52, -42, -50, 93, -54, -15, -72, 81, 24, -73, -12, -57, 33, 12, -28, -17, 18, 35, -16, -21, 41, 45, -78, -73, 93, 71, -47, -70, 109, -113, 113, 114, -90, -127, -64, 48},
		[]byte{1, 1, 0, 1, 1, 1, 0, 0, 1, 1, 0, 0, 0, 1, 0, 1, 0, 0, 1, 1, 0, 0, 1, 1, 0, 0, 1, 1, 0, 0, 1, 1, 0, 1, 0, 0, 1, 1, 1, 0},
		4645, []int{60, 129, 208, 352, 577, 697, 868, 869, 1086, 1221, 1304, 1324, 1506, 1740, 1755, 1913, 2028, 2121, 2236, 2290, 2350, 2431, 2552, 2568, 2745, 2948, 3032, 3153, 3218, 3278, 3308, 3497, 3590, 3705, 3893, 3908, 4142, 4228, 4402, 4537, 4577, 4677, 4645},
	}},
}

// knownSums are further ones, with sums over the results, from the same computation.
var knownSums = []struct {
	k, series, total, extrinsic, bits, forward, greatest int
}{
	{40, 1, 982627, 982221, 988164, 1125, 4517},
	{41, 2, 969071, 985491, 987653, 73185, 4405},
	{63, 3, 17521, 994423, 970608, 599909, 6395},
	{500, 4, 62516, 228541, 184215, 965701, 51768},
	{1000, 5, 630132, 554844, 718422, 210036, 103733},
	{6143, 6, 837988, 722798, 475056, 498585, 678006},
	{6144, 7, 171547, 763890, 858703, 134487, 628569},
	{6144, 8, 595086, 432636, 33412, 569411, 638700},
}

// knownMetrics are the metrics of some input bits from series, from the same computation.
var knownMetrics = []struct{ k, series, metric int }{
	{1, 1, -77}, {2, 2, -461}, {3, 3, 436}, {40, 6, -1811}, {1000, 5, 8467}, {6144, 7, -67217},
}

// noValues are integers that are no soft value, some of them equal to one if they were cut.
var noValues = []int{128, 129, 255, 256, 257, 1<<16 + 5, 1<<32 + 5, math.MaxInt32, math.MaxInt - 1, math.MaxInt, -128, -129, -255, -256, -257, -1 << 32, math.MinInt32, math.MinInt + 5, math.MinInt + 1, math.MinInt}

// noBits are elements that are no bit.
var noBits = []byte{2, 3, 4, 48, 49, 127, 128, 129, 254, 255}

// lengths are numbers of input bits: the least, the greatest, and others.
var lengths = []int{1, 2, 3, 4, 5, 7, 8, 9, 16, 39, 40, 41, 64, 100}

// series returns the first n values of a series.
func series(n, which int) []int {
	l := make([]int, n)
	for i := range l {
		l[i] = (i*i*31+i*11+which*57)%255 - 127
	}
	return l
}

// fromSeries returns an observation of k input bits.
func fromSeries(k, which int) observation {
	return observation{series(k+3, which), series(k+3, which+3), series(k, which+7)}
}

// seriesBits returns input bits.
func seriesBits(n, which int) []byte {
	bits := make([]byte, n)
	for i, v := range series(n, which) {
		bits[i] = byte((v + 127) % 3 % 2)
	}
	return bits
}

// sum returns a sum over integers that depends on their order.
func sum(l []int) int {
	s := 0
	for i, v := range l {
		s = (s + (i+1)*(v+5000000)) % 1000003
	}
	return s
}

func integers(bits []byte) []int {
	l := make([]int, len(bits))
	for i, bit := range bits {
		l[i] = int(bit)
	}
	return l
}

// length returns the number of input bits.
func (o observation) length() int { return len(o.apriori) }

// lists returns the lists of values.
func (o observation) lists() [3][]int { return [3][]int{o.systematic, o.parity, o.apriori} }

func (o observation) clone() observation {
	return observation{slices.Clone(o.systematic), slices.Clone(o.parity), slices.Clone(o.apriori)}
}

func (o observation) equals(x observation) bool {
	return slices.Equal(o.systematic, x.systematic) && slices.Equal(o.parity, x.parity) && slices.Equal(o.apriori, x.apriori)
}

func (o observation) String() string {
	if o.length() > 20 {
		return fmt.Sprintf("an observation of %d input bits", o.length())
	}
	return fmt.Sprintf("systematic %v, parity %v, a priori %v", o.systematic, o.parity, o.apriori)
}

// input returns the sum of the systematic and the a priori value of a step.
func (o observation) input(i int) int {
	if i < len(o.apriori) {
		return o.systematic[i] + o.apriori[i]
	}
	return o.systematic[i]
}

// sends returns the input bits and the parity bits of all steps by the polynomials, those of the tail among them, for a register that holds 0 0 0 at first.
func sends(bits []byte) (inputs, parity []byte) {
	a := []byte{0, 0, 0} // what is in the register, and what enters it
	for i := range len(bits) + 3 {
		k := len(a)
		u := (a[k-2] + a[k-3]) % 2
		if i < len(bits) {
			u = bits[i]
		}
		a = append(a, (u+a[k-2]+a[k-3])%2)
		inputs, parity = append(inputs, u), append(parity, (a[k]+a[k-1]+a[k-3])%2)
	}
	return inputs, parity
}

// partial returns the sums of the terms of the metric of input bits up to each step.
func (o observation) partial(bits []byte) []int {
	var l []int
	inputs, parity := sends(bits)
	s := 0
	for i := range inputs {
		s += o.input(i)*(1-2*int(inputs[i])) + o.parity[i]*(1-2*int(parity[i]))
		l = append(l, s)
	}
	return l
}

// metric returns the metric of input bits.
func (o observation) metric(bits []byte) int {
	l := o.partial(bits)
	return l[len(l)-1]
}

// everyInput yields the input bits of length n, all of them.
func everyInput(n int) iter.Seq[[]byte] {
	return func(yield func([]byte) bool) {
		for x := range 1 << n {
			bits := make([]byte, n)
			for i := range bits {
				bits[i] = byte(x >> i & 1)
			}
			if !yield(bits) {
				return
			}
		}
	}
}

// extrinsic returns the extrinsic value for a total minus the systematic and the a priori value.
func extrinsic(excess int) int {
	magnitude := min(max(excess, -excess)*3/4, 127)
	if excess < 0 {
		return -magnitude
	}
	return magnitude
}

// decided completes a result that has its totals.
func (o observation) decided(r result) result {
	for i, total := range r.total {
		r.extrinsic = append(r.extrinsic, extrinsic(total-o.input(i)))
		bit := byte(0)
		if total < 0 {
			bit = 1
		}
		r.bits = append(r.bits, bit)
	}
	return r
}

// byDefinition returns the result by definition, from all input bits.
func (o observation) byDefinition() result {
	k := o.length()
	none := math.MinInt / 4
	r := result{greatest: none, forward: slices.Repeat([]int{none}, k+3)}
	best := [2][]int{slices.Repeat([]int{none}, k), slices.Repeat([]int{none}, k)}
	for bits := range everyInput(k) {
		l := o.partial(bits)
		metric := l[k+2]
		for i, s := range l {
			r.forward[i] = max(r.forward[i], s)
		}
		for i, bit := range bits {
			best[bit][i] = max(best[bit][i], metric)
		}
		r.greatest = max(r.greatest, metric)
	}
	for i := range k {
		r.total = append(r.total, (best[0][i]-best[1][i])/2)
	}
	return o.decided(r)
}

// register is what is in the register.
type register [3]int

// along returns the greatest sums of terms up to each step over the input bits that have one of the allowed bits at each place.
func (o observation) along(allowed func(i, bit int) bool) []int {
	var l []int
	reached := map[register]int{{}: 0}
	for i := range o.systematic {
		next := map[register]int{}
		for r, s := range reached {
			for u := range 2 {
				a := (u + r[1] + r[2]) % 2
				if i < o.length() && !allowed(i, u) || i >= o.length() && a != 0 {
					continue
				}
				n := s + o.input(i)*(1-2*u) + o.parity[i]*(1-2*((a+r[0]+r[2])%2))
				to := register{a, r[0], r[1]}
				if old, ok := next[to]; !ok || n > old {
					next[to] = n
				}
			}
		}
		reached = next
		best := math.MinInt
		for _, s := range reached {
			best = max(best, s)
		}
		l = append(l, best)
	}
	return l
}

// greatestWith returns the greatest metric of the input bits that have a bit at a place.
func (o observation) greatestWith(place, value int) int {
	l := o.along(func(i, bit int) bool { return i != place || bit == value })
	return l[len(l)-1]
}

// total returns the total of a bit.
func (o observation) total(place int) int {
	return (o.greatestWith(place, 0) - o.greatestWith(place, 1)) / 2
}

// stepByStep returns the result of an observation that is too long for the definition.
func (o observation) stepByStep() result {
	r := result{forward: o.along(func(i, bit int) bool { return true })}
	r.greatest = r.forward[len(r.forward)-1]
	for i := range o.apriori {
		r.total = append(r.total, o.total(i))
	}
	return o.decided(r)
}

// randomValues returns n values with magnitudes of at most most.
func randomValues(random *rand.Rand, n, most int) []int {
	l := make([]int, n)
	for i := range l {
		l[i] = random.Intn(2*most+1) - most
	}
	return l
}

func randomObservation(random *rand.Rand, k, most int) observation {
	return observation{randomValues(random, k+3, most), randomValues(random, k+3, most), randomValues(random, k, most)}
}

// level returns an observation all of whose values are v.
func level(k, v int) observation {
	return observation{slices.Repeat([]int{v}, k+3), slices.Repeat([]int{v}, k+3), slices.Repeat([]int{v}, k)}
}

// extreme returns an observation all of whose values are 127 or -127.
func extreme(random *rand.Rand, k int) observation {
	o := level(k, 127)
	for _, l := range o.lists() {
		for i := range l {
			l[i] *= 1 - 2*random.Intn(2)
		}
	}
	return o
}

// observations returns observations of k input bits of many kinds, those with equal metrics among them.
func observations(random *rand.Rand, k int) []observation {
	l := []observation{level(k, 0), level(k, 1), level(k, -1), level(k, 127), level(k, -127), extreme(random, k), extreme(random, k)}
	for _, most := range []int{1, 1, 2, 3, 10, 127, 127, 127} {
		l = append(l, randomObservation(random, k, most))
	}
	o := randomObservation(random, k, 127)
	return append(l, observation{o.systematic, o.parity, make([]int, k)}, observation{make([]int, k+3), o.parity, o.apriori}, observation{o.systematic, make([]int, k+3), o.apriori})
}

func randomBits(random *rand.Rand, n int) []byte {
	b := make([]byte, n)
	for i := range b {
		b[i] = byte(random.Intn(2))
	}
	return b
}

// with returns a copy of a slice that has another element at an index.
func with[E any](l []E, i int, element E) []E {
	c := slices.Clone(l)
	c[i] = element
	return c
}

// having returns a copy of an observation that has another value in one of its lists.
func (o observation) having(list, i, v int) observation {
	c := o.clone()
	c.lists()[list][i] = v
	return c
}

// overwrite changes every element of a slice, and those for which it has room.
func overwrite[E any](l []E, element E) {
	for i := range l[:cap(l)] {
		l[:cap(l)][i] = element
	}
}

// Calls of the functions

func decode(o observation) (api.Decision, api.Errno) {
	return siso.Decode(o.systematic, o.parity, o.apriori)
}

func metric(o observation, bits []byte) (int, api.Errno) {
	return siso.Metric(o.systematic, o.parity, o.apriori, bits)
}

func greatest(o observation) (int, api.Errno) {
	return siso.Greatest(o.systematic, o.parity, o.apriori)
}

func forward(o observation) iter.Seq2[int, int] {
	return siso.Forward(o.systematic, o.parity, o.apriori)
}

// steps returns what an iterator yields up to a number of steps, and reports whether the steps are 0, 1 and so on.
func steps(s iter.Seq2[int, int], most int) (l []int, ordered bool) {
	ordered = true
	for i, v := range s {
		ordered = ordered && i == len(l)
		l = append(l, v)
		if len(l) == most {
			break
		}
	}
	return l, ordered
}

// difference shows where two slices differ first.
func difference[E comparable](got, want []E) string {
	for i := range min(len(got), len(want)) {
		if got[i] != want[i] {
			return fmt.Sprintf("element %d is %v; want %v", i, got[i], want[i])
		}
	}
	return fmt.Sprintf("%d elements; want %d", len(got), len(want))
}

func expectDecode(t *testing.T, o observation, want result) {
	t.Helper()
	d, e := decode(o)
	if e != api.OK {
		t.Errorf("Decode of %v: error %v", o, e)
		return
	}
	if !slices.Equal(d.Total, want.total) {
		t.Errorf("Decode of %v: totals: %s", o, difference(d.Total, want.total))
	}
	if !slices.Equal(d.Extrinsic, want.extrinsic) {
		t.Errorf("Decode of %v: extrinsic values: %s", o, difference(d.Extrinsic, want.extrinsic))
	}
	if !slices.Equal(d.Bits, want.bits) {
		t.Errorf("Decode of %v: decisions: %s", o, difference(d.Bits, want.bits))
	}
}

func expectMetric(t *testing.T, o observation, bits []byte, want int, wantError api.Errno) {
	t.Helper()
	if got, e := metric(o, bits); got != want || e != wantError {
		t.Errorf("Metric of %v and %d bits = %d, error %v; want %d, error %v", o, len(bits), got, e, want, wantError)
	}
}

func expectGreatest(t *testing.T, o observation, want int) {
	t.Helper()
	if got, e := greatest(o); got != want || e != api.OK {
		t.Errorf("Greatest of %v = %d, error %v; want %d", o, got, e, want)
	}
}

func expectForward(t *testing.T, o observation, want []int) {
	t.Helper()
	if got, ordered := steps(forward(o), -1); !slices.Equal(got, want) || !ordered {
		t.Errorf("Forward of %v: in order is %t: %s", o, ordered, difference(got, want))
	}
}

// expectResult expects what Decode, Greatest and Forward return.
func expectResult(t *testing.T, o observation, want result) {
	t.Helper()
	expectDecode(t, o, want)
	expectGreatest(t, o, want.greatest)
	expectForward(t, o, want.forward)
}

// expectError expects an error of Decode and Greatest, nothing from Forward, and an error of Metric for some bits.
func expectError(t *testing.T, o observation, bits []byte, want, wantOfMetric api.Errno) {
	t.Helper()
	if d, e := decode(o); len(d.Total) != 0 || len(d.Extrinsic) != 0 || len(d.Bits) != 0 || e != want {
		t.Errorf("Decode of %v: %v, error %v; want nothing and error %v", o, d, e, want)
	}
	if got, e := greatest(o); got != 0 || e != want {
		t.Errorf("Greatest of %v = %d, error %v; want 0, error %v", o, got, e, want)
	}
	if l, _ := steps(forward(o), -1); len(l) != 0 {
		t.Errorf("Forward of %v yields %d steps; want none", o, len(l))
	}
	expectMetric(t, o, bits, 0, wantOfMetric)
}

func TestExamples(t *testing.T) {
	o := observation{[]int{3, 0, 0, 0}, []int{1, 0, 0, 0}, []int{2}}
	expectMetric(t, o, []byte{0}, 6, api.OK)
	expectMetric(t, o, []byte{1}, -6, api.OK)
	expectDecode(t, o, result{total: []int{6}, extrinsic: []int{0}, bits: []byte{0}})
	o = observation{[]int{-8, 0, 0, 0}, []int{-8, 0, 0, 0}, []int{0}}
	expectDecode(t, o, result{total: []int{-16}, extrinsic: []int{-6}, bits: []byte{1}})
	expectError(t, observation{[]int{1, 0, 0}, []int{1, 0, 0}, nil}, nil, api.ErrArg, api.ErrArg)
}

func TestKnownResults(t *testing.T) {
	for _, x := range known {
		expectResult(t, fromSeries(x.k, x.series), x.result)
	}
	for _, x := range knownSums {
		o := fromSeries(x.k, x.series)
		d, e := decode(o)
		if e != api.OK || sum(d.Total) != x.total || sum(d.Extrinsic) != x.extrinsic || sum(integers(d.Bits)) != x.bits {
			t.Errorf("Decode of %v, series %d: sums %d, %d, %d, error %v; want %d, %d, %d", o, x.series, sum(d.Total), sum(d.Extrinsic), sum(integers(d.Bits)), e, x.total, x.extrinsic, x.bits)
		}
		if l, ordered := steps(forward(o), -1); len(l) != x.k+3 || sum(l) != x.forward || !ordered {
			t.Errorf("Forward of %v, series %d: %d steps, in order is %t, sum %d; want %d", o, x.series, len(l), ordered, sum(l), x.forward)
		}
		expectGreatest(t, o, x.greatest)
	}
	for _, x := range knownMetrics {
		expectMetric(t, fromSeries(x.k, x.series), seriesBits(x.k, x.series+9), x.metric, api.OK)
	}
}

// The references of this file agree.
func TestReferences(t *testing.T) {
	random := rand.New(rand.NewSource(1))
	for k := 1; k <= 8; k++ {
		for _, o := range observations(random, k) {
			a, b := o.byDefinition(), o.stepByStep()
			if !slices.Equal(a.total, b.total) || !slices.Equal(a.forward, b.forward) || a.greatest != b.greatest {
				t.Errorf("%v: %v by definition, %v step by step", o, a, b)
			}
		}
	}
}

// P13.1 and P13.2: Decode and Greatest, and P13.3: Forward

// TestOneInputBit has each of three values everywhere.
func TestOneInputBit(t *testing.T) {
	for x := range 19683 {
		o := level(1, 0)
		for _, l := range o.lists() {
			for i := range l {
				l[i] = 5 * (x%3 - 1)
				x /= 3
			}
		}
		expectResult(t, o, o.byDefinition())
	}
}

// TestFewInputBits looks at all input bits.
func TestFewInputBits(t *testing.T) {
	random := rand.New(rand.NewSource(2))
	for k := 1; k <= 6; k++ {
		for range 30 {
			for _, o := range observations(random, k) {
				expectResult(t, o, o.byDefinition())
			}
		}
	}
	for k := 7; k <= 11; k++ {
		for _, o := range observations(random, k) {
			expectResult(t, o, o.byDefinition())
		}
	}
}

// TestManyInputBits looks at all bits of each observation.
func TestManyInputBits(t *testing.T) {
	random := rand.New(rand.NewSource(3))
	for _, k := range lengths {
		for _, o := range observations(random, k) {
			expectResult(t, o, o.stepByStep())
		}
	}
}

// TestEveryNumberOfInputBits looks at some bits of some observations, the greatest number of input bits among them.
func TestEveryNumberOfInputBits(t *testing.T) {
	random := rand.New(rand.NewSource(4))
	for k := 1; k <= 6144; k += 1 + random.Intn(200) {
		expectSomeBits(t, random, randomObservation(random, k, 1+random.Intn(127)), 1)
	}
	for _, k := range []int{6142, 6143, 6144} {
		for _, o := range []observation{level(k, 127), level(k, -127), extreme(random, k), randomObservation(random, k, 1)} {
			expectSomeBits(t, random, o, 3)
		}
	}
}

// expectSomeBits expects the results for the first and the last bits of an observation, and for some others.
func expectSomeBits(t *testing.T, random *rand.Rand, o observation, others int) {
	t.Helper()
	k := o.length()
	d, e := decode(o)
	if e != api.OK || len(d.Total) != k || len(d.Extrinsic) != k || len(d.Bits) != k {
		t.Errorf("Decode of %v: %d totals, %d extrinsic values, %d decisions, error %v", o, len(d.Total), len(d.Extrinsic), len(d.Bits), e)
		return
	}
	places := []int{0, k - 1}
	for range others {
		places = append(places, random.Intn(k))
	}
	for _, place := range places {
		total := o.total(place)
		bit := byte(0)
		if total < 0 {
			bit = 1
		}
		if d.Total[place] != total || d.Extrinsic[place] != extrinsic(total-o.input(place)) || d.Bits[place] != bit {
			t.Errorf("Decode of %v: bit %d: total %d, extrinsic value %d, decision %d; want the total %d", o, place, d.Total[place], d.Extrinsic[place], d.Bits[place], total)
		}
	}
	l := o.along(func(i, bit int) bool { return true })
	expectForward(t, o, l)
	expectGreatest(t, o, l[k+2])
}

// TestNothingKnown decides for 0.
func TestNothingKnown(t *testing.T) {
	for _, k := range append(lengths, 6144) {
		expectResult(t, level(k, 0), result{make([]int, k), make([]int, k), make([]byte, k), 0, make([]int, k+3)})
	}
}

// excessive returns an observation of one input bit whose total is the sum of the systematic value, the a priori value and an excess from -635 to 635.
func excessive(systematic, apriori, excess int) observation {
	o := level(1, 0)
	o.systematic[0], o.apriori[0] = systematic, apriori
	for _, v := range []*int{&o.parity[0], &o.systematic[2], &o.systematic[3], &o.parity[1], &o.parity[3]} {
		*v = min(max(excess, -127), 127)
		excess -= *v
	}
	return o
}

func TestExtrinsicValues(t *testing.T) {
	for _, x := range []struct{ excess, want int }{
		{0, 0}, {1, 0}, {2, 1}, {3, 2}, {4, 3}, {5, 3}, {-1, 0}, {-2, -1}, {-3, -2}, {-4, -3}, {-5, -3},
		{168, 126}, {169, 126}, {170, 127}, {171, 127}, {172, 127}, {200, 127}, {635, 127},
		{-168, -126}, {-169, -126}, {-170, -127}, {-171, -127}, {-172, -127}, {-200, -127}, {-635, -127},
	} {
		for _, systematic := range []int{0, 1, -127, 127} {
			d, e := decode(excessive(systematic, 2, x.excess))
			if e != api.OK || d.Extrinsic[0] != x.want {
				t.Errorf("the extrinsic value for %d beyond the systematic value %d is %v, error %v; want %d", x.excess, systematic, d.Extrinsic, e, x.want)
			}
		}
	}
	for excess := -635; excess <= 635; excess++ {
		for _, v := range [][2]int{{0, 0}, {5, -5}, {-127, -127}, {127, 127}, {1, 0}, {0, -1}, {-excess / 6, -excess / 7}} {
			o := excessive(v[0], v[1], excess)
			total := v[0] + v[1] + excess
			if o.byDefinition().total[0] != total {
				t.Fatalf("the total of %v is not %d", o, total)
			}
			bit := byte(0)
			if total < 0 {
				bit = 1
			}
			expectDecode(t, o, result{total: []int{total}, extrinsic: []int{extrinsic(excess)}, bits: []byte{bit}})
		}
	}
}

// TestAprioriValues adds them to the systematic values, but not to what is new.
func TestAprioriValues(t *testing.T) {
	random := rand.New(rand.NewSource(5))
	for range 300 {
		o := randomObservation(random, 1+random.Intn(60), 63)
		added := o.clone()
		for i, v := range o.apriori {
			added.systematic[i] += v
			added.apriori[i] = 0
		}
		d, e := decode(o)
		if e != api.OK {
			t.Errorf("Decode of %v: error %v", o, e)
		}
		expectDecode(t, added, result{total: d.Total, extrinsic: d.Extrinsic, bits: d.Bits})
		bits := randomBits(random, o.length())
		expectMetric(t, o, bits, o.metric(bits), api.OK)
		expectMetric(t, added, bits, o.metric(bits), api.OK)
	}
}

// P13.2: Metric

func TestMetricOfEveryInput(t *testing.T) {
	random := rand.New(rand.NewSource(6))
	for k := 1; k <= 8; k++ {
		for _, o := range observations(random, k) {
			for bits := range everyInput(k) {
				expectMetric(t, o, bits, o.metric(bits), api.OK)
			}
		}
	}
}

func TestMetricOfManyBits(t *testing.T) {
	random := rand.New(rand.NewSource(7))
	for _, k := range append(lengths, 1000, 6143, 6144) {
		for _, o := range observations(random, k) {
			for _, bits := range [][]byte{make([]byte, k), slices.Repeat([]byte{1}, k), randomBits(random, k), randomBits(random, k)} {
				expectMetric(t, o, bits, o.metric(bits), api.OK)
			}
		}
	}
	expectMetric(t, level(6144, 127), make([]byte, 6144), 127*(3*6144+6), api.OK)
	expectMetric(t, level(6144, -127), make([]byte, 6144), -127*(3*6144+6), api.OK)
}

// TestEachValueAlone has one value that is not 0, in each list: its sign is that of one bit.
func TestEachValueAlone(t *testing.T) {
	random := rand.New(rand.NewSource(8))
	for _, k := range []int{1, 2, 3, 9, 40} {
		bits := randomBits(random, k)
		inputs, parity := sends(bits)
		for list, sent := range [][]byte{inputs, parity, bits} {
			for i, bit := range sent {
				for _, v := range []int{1, -1, 127, -127} {
					expectMetric(t, level(k, 0).having(list, i, v), bits, v*(1-2*int(bit)), api.OK)
				}
			}
		}
	}
}

// P13.3: Forward

func TestForwardLeftEarly(t *testing.T) {
	o := fromSeries(8, 5)
	s, want := forward(o), o.byDefinition().forward
	for range 2 {
		for most := 1; most <= 11; most++ {
			if l, ordered := steps(s, most); !slices.Equal(l, want[:most]) || !ordered {
				t.Errorf("the first %d steps of Forward are %v; want %v", most, l, want[:most])
			}
		}
		if l, _ := steps(s, -1); !slices.Equal(l, want) {
			t.Errorf("Forward used again: %v; want %v", l, want)
		}
	}
	asked := 0
	s(func(i, v int) bool {
		asked++
		return i < 4
	})
	if asked != 5 {
		t.Errorf("Forward yields %d steps to a function that stops at the fifth", asked)
	}
}

// TestForwardInsideItself uses an iterator inside its own loop.
func TestForwardInsideItself(t *testing.T) {
	o := fromSeries(5, 4)
	s, want := forward(o), o.byDefinition().forward
	var outside []int
	for _, v := range s {
		outside = append(outside, v)
		if l, _ := steps(s, -1); !slices.Equal(l, want) {
			t.Errorf("Forward inside itself: %v; want %v", l, want)
		}
	}
	if !slices.Equal(outside, want) {
		t.Errorf("Forward around itself: %v; want %v", outside, want)
	}
}

func TestForwardUsesTheValuesOfTheCall(t *testing.T) {
	for list := range 3 {
		o := fromSeries(8, 5)
		want := o.byDefinition().forward
		s := forward(o)
		overwrite(o.lists()[list], -99)
		if l, _ := steps(s, -1); !slices.Equal(l, want) {
			t.Errorf("Forward after list %d has changed: %v; want %v", list, l, want)
		}
		overwrite(o.lists()[list], math.MaxInt)
		if l, _ := steps(s, -1); !slices.Equal(l, want) {
			t.Errorf("Forward after list %d is invalid: %v; want %v", list, l, want)
		}
		o = fromSeries(8, 5)
		s = forward(o)
		for i := range s {
			overwrite(o.lists()[list], 3*i)
		}
		if l, _ := steps(s, -1); !slices.Equal(l, want) {
			t.Errorf("Forward after list %d changes in a loop: %v; want %v", list, l, want)
		}
		o = fromSeries(8, 5).having(list, 0, 128)
		s = forward(o)
		o.lists()[list][0] = 0
		if l, _ := steps(s, -1); len(l) != 0 {
			t.Errorf("Forward of an invalid observation that becomes valid yields %v", l)
		}
	}
}

// P13.4

func TestTheLastStepIsGreatest(t *testing.T) {
	random := rand.New(rand.NewSource(9))
	for _, k := range append(lengths, 1000, 6144) {
		for _, o := range observations(random, k) {
			l, _ := steps(forward(o), -1)
			if len(l) != k+3 {
				t.Fatalf("Forward of %v yields %d steps", o, len(l))
			}
			expectGreatest(t, o, l[k+2])
		}
	}
}

func TestGreatestIsTheMetricOfTheDecisions(t *testing.T) {
	random := rand.New(rand.NewSource(10))
	for _, k := range lengths {
		for _, o := range observations(random, k) {
			d, _ := decode(o)
			if len(d.Bits) != k {
				t.Fatalf("Decode of %v: %d decisions", o, len(d.Bits))
			}
			for place, bit := range d.Bits {
				expectGreatest(t, o, o.greatestWith(place, int(bit)))
			}
			unequal := true
			for _, total := range d.Total {
				unequal = unequal && total != 0
			}
			if unequal {
				best, _ := greatest(o)
				expectMetric(t, o, d.Bits, best, api.OK)
			}
		}
	}
}

// inverted returns an observation whose signs are inverted where the codeword of some bits, or its input, has ones.
func (o observation) inverted(bits []byte) observation {
	x := o.clone()
	inputs, parity := sends(bits)
	for list, sent := range [][]byte{inputs, parity, bits} {
		for i, bit := range sent {
			x.lists()[list][i] *= 1 - 2*int(bit)
		}
	}
	return x
}

func TestInvertedSigns(t *testing.T) {
	random := rand.New(rand.NewSource(11))
	for _, k := range append(lengths, 1000, 6144) {
		for _, o := range observations(random, k) {
			bits := randomBits(random, k)
			d, _ := decode(o)
			x, _ := decode(o.inverted(bits))
			if len(d.Total) != k || len(x.Total) != k {
				t.Fatalf("Decode of %v: %d and %d totals", o, len(d.Total), len(x.Total))
			}
			for i, bit := range bits {
				if x.Total[i] != d.Total[i]*(1-2*int(bit)) {
					t.Errorf("%v: total %d is %d, after an inversion by %d it is %d", o, i, d.Total[i], bit, x.Total[i])
				}
			}
			best, _ := greatest(o)
			expectGreatest(t, o.inverted(bits), best)
		}
	}
}

// sent returns an observation of a codeword with the same magnitude everywhere, and without a priori values. Some signs may be wrong: those of the systematic values are numbered first.
func sent(bits []byte, magnitude int, wrong ...int) observation {
	k := len(bits)
	o := observation{slices.Repeat([]int{magnitude}, k+3), slices.Repeat([]int{magnitude}, k+3), make([]int, k)}.inverted(bits)
	for _, i := range wrong {
		o.lists()[i/(k+3)][i%(k+3)] *= -1
	}
	return o
}

func expectDecisions(t *testing.T, o observation, want []byte) {
	t.Helper()
	if d, e := decode(o); !slices.Equal(d.Bits, want) || e != api.OK {
		t.Errorf("Decode of %v: decisions: %s, error %v", o, difference(d.Bits, want), e)
	}
}

// TestWrongSigns has every pair of wrong signs in every codeword of few input bits, and some pairs in others.
func TestWrongSigns(t *testing.T) {
	for k := 1; k <= 5; k++ {
		for bits := range everyInput(k) {
			expectDecisions(t, sent(bits, 1), bits)
			for i := range 2*k + 6 {
				expectDecisions(t, sent(bits, 3, i), bits)
				for j := range i {
					expectDecisions(t, sent(bits, 1, i, j), bits)
				}
			}
		}
	}
	random := rand.New(rand.NewSource(12))
	for _, k := range append(lengths, 1000, 6144) {
		for _, bits := range [][]byte{make([]byte, k), slices.Repeat([]byte{1}, k), randomBits(random, k)} {
			for range 10 {
				i, j := random.Intn(2*k+6), random.Intn(2*k+6)
				expectDecisions(t, sent(bits, 1+random.Intn(127), i, j), bits)
			}
			expectDecisions(t, sent(bits, 127, k+2, 2*k+5), bits)
			expectDecisions(t, sent(bits, 1, 0, k+3), bits)
		}
	}
}

// Errors

// TestNumbersOfValues has all numbers of values up to 8.
func TestNumbersOfValues(t *testing.T) {
	for x := range 9 * 9 * 9 {
		s, p, a := x/81, x/9%9, x%9
		o := observation{make([]int, s), make([]int, p), make([]int, a)}
		if a >= 1 && s == a+3 && p == a+3 {
			expectResult(t, o, o.byDefinition())
			continue
		}
		for bits := range 9 {
			expectError(t, o, make([]byte, bits), api.ErrArg, api.ErrArg)
		}
	}
	expectError(t, observation{}, nil, api.ErrArg, api.ErrArg)
	expectError(t, observation{make([]int, 3), make([]int, 3), nil}, nil, api.ErrArg, api.ErrArg)
	expectError(t, observation{make([]int, 3), make([]int, 3), []int{}}, []byte{}, api.ErrArg, api.ErrArg)
}

func TestTooManyInputBits(t *testing.T) {
	for _, k := range []int{6145, 6146, 6147, 6148, 6200, 8192, 12288, 1<<16 + 40, 1 << 20} {
		for _, bits := range []int{0, 1, 6144, k} {
			expectError(t, level(k, 0), make([]byte, bits), api.ErrArg, api.ErrArg)
		}
	}
	for _, k := range []int{1, 40, 6144} {
		for _, more := range [][3]int{{1, 0, 0}, {0, 1, 0}, {0, 0, 1}, {1, 1, 0}, {-1, 0, 0}, {0, -1, 0}, {0, 0, -1}, {-1, -1, 0}, {-3, -3, 0}, {0, 0, 3}} {
			o := observation{make([]int, k+3+more[0]), make([]int, k+3+more[1]), make([]int, k+more[2])}
			for _, bits := range []int{0, k, o.length()} {
				expectError(t, o, make([]byte, bits), api.ErrArg, api.ErrArg)
			}
		}
	}
}

func TestNumbersOfBits(t *testing.T) {
	for _, k := range append(lengths, 6144) {
		for _, n := range []int{0, 1, k - 1, k + 1, k + 3, 2 * k, 6143, 6145, 10000} {
			if n != k {
				expectMetric(t, level(k, 1), make([]byte, n), 0, api.ErrArg)
			}
		}
		expectMetric(t, level(k, 1), nil, 0, api.ErrArg)
		expectMetric(t, level(k, 1), make([]byte, k), 3*k+6, api.OK)
	}
}

func TestValuesOutOfRange(t *testing.T) {
	random := rand.New(rand.NewSource(13))
	for _, k := range []int{1, 2, 8, 40} {
		o := randomObservation(random, k, 127)
		for list, l := range o.lists() {
			for i := range l {
				for _, v := range noValues {
					expectError(t, o.having(list, i, v), make([]byte, k), api.ErrRange, api.ErrRange)
				}
				for _, v := range []int{127, -127} {
					x := o.having(list, i, v)
					expectMetric(t, x, make([]byte, k), x.metric(make([]byte, k)), api.OK)
					if _, e := decode(x); e != api.OK {
						t.Errorf("Decode of %v: error %v", x, e)
					}
				}
			}
		}
	}
	o := level(6144, 5)
	for list, l := range o.lists() {
		for _, i := range []int{0, 3000, 6143, len(l) - 1} {
			expectError(t, o.having(list, i, 128), make([]byte, 6144), api.ErrRange, api.ErrRange)
			expectError(t, o.having(list, i, -128), make([]byte, 6144), api.ErrRange, api.ErrRange)
		}
	}
}

func TestNoBits(t *testing.T) {
	random := rand.New(rand.NewSource(14))
	for _, k := range lengths {
		o, bits := randomObservation(random, k, 127), randomBits(random, k)
		for i := range bits {
			for _, element := range noBits {
				expectMetric(t, o, with(bits, i, element), 0, api.ErrBit)
			}
		}
	}
	for element := 2; element <= 255; element++ {
		expectMetric(t, level(1, 1), []byte{byte(element)}, 0, api.ErrBit)
	}
	for _, i := range []int{0, 3000, 6143} {
		expectMetric(t, level(6144, 1), with(make([]byte, 6144), i, 2), 0, api.ErrBit)
	}
}

func TestOrderOfErrors(t *testing.T) {
	for _, v := range noValues {
		for list := range 3 {
			// Numbers that do not fit come first, wherever the value is.
			for shorter := range 3 {
				o := level(5, 1).having(list, 0, v)
				l := o.lists()
				l[shorter] = l[shorter][:len(l[shorter])-1]
				for _, bits := range [][]byte{nil, make([]byte, 4), make([]byte, 5), {2, 0, 0, 0, 0}} {
					expectError(t, observation{l[0], l[1], l[2]}, bits, api.ErrArg, api.ErrArg)
				}
			}
			// So does a number of bits that is not K, and a value comes before a bit.
			o := level(5, 1).having(list, 4, v)
			for _, bits := range [][]byte{nil, make([]byte, 4), make([]byte, 6), {2, 0, 0, 0}, {2, 2, 2, 2, 2, 2}} {
				expectError(t, o, bits, api.ErrRange, api.ErrArg)
			}
			for _, bits := range [][]byte{make([]byte, 5), {2, 0, 0, 0, 0}, {0, 0, 0, 0, 255}} {
				expectError(t, o, bits, api.ErrRange, api.ErrRange)
			}
		}
	}
	for _, bits := range [][]byte{{2, 0, 0, 0}, {2, 0, 0, 0, 0, 0}, {0, 0, 0, 0, 0, 2}} {
		expectMetric(t, level(5, 1), bits, 0, api.ErrArg)
	}
	expectError(t, level(6145, 128), with(make([]byte, 6145), 0, 2), api.ErrArg, api.ErrArg)
	expectError(t, observation{slices.Repeat([]int{500}, 3), slices.Repeat([]int{500}, 3), nil}, []byte{2}, api.ErrArg, api.ErrArg)
}

// P1 and the document's section Rules

// TestArgumentsAreNotModified looks at the elements beside the arguments, too, and at calls with errors.
func TestArgumentsAreNotModified(t *testing.T) {
	random := rand.New(rand.NewSource(15))
	for _, v := range []int{0, 127, 128, math.MinInt} {
		for _, k := range []int{1, 8, 40} {
			whole := randomObservation(random, k+10, 127).having(0, 3, v)
			bits := append(randomBits(random, k), 2, 3, 4)
			kept, keptBits := whole.clone(), slices.Clone(bits)
			for n := k - 1; n <= k+1; n++ {
				o := observation{whole.systematic[2 : k+5], whole.parity[1 : k+4], whole.apriori[3 : n+3]}
				decode(o)
				greatest(o)
				metric(o, bits[:n])
				metric(o, bits)
				for range forward(o) {
				}
			}
			if !whole.equals(kept) || !slices.Equal(bits, keptBits) {
				t.Errorf("a call changes its arguments, or elements beside them: %v", kept)
			}
		}
	}
}

// TestResultsShareNoMemory overwrites results, and what they have room for.
func TestResultsShareNoMemory(t *testing.T) {
	for _, k := range []int{1, 2, 8, 40, 6144} {
		o := fromSeries(k, k%9)
		kept := o.clone()
		first, _ := decode(o)
		want := result{total: slices.Clone(first.Total), extrinsic: slices.Clone(first.Extrinsic), bits: slices.Clone(first.Bits)}
		second, _ := decode(o)
		overwrite(first.Total, 1000)
		if !slices.Equal(first.Extrinsic, want.extrinsic) {
			t.Errorf("the extrinsic values of %v share memory with the totals", o)
		}
		overwrite(first.Extrinsic, 2000)
		for _, total := range first.Total {
			if total != 1000 {
				t.Fatalf("the totals of %v share memory with the extrinsic values", o)
			}
		}
		overwrite(first.Bits, 9)
		if !slices.Equal(second.Total, want.total) || !slices.Equal(second.Extrinsic, want.extrinsic) || !slices.Equal(second.Bits, want.bits) {
			t.Errorf("results for %v share memory with each other", o)
		}
		if !o.equals(kept) {
			t.Errorf("results share memory with the arguments %v", kept)
		}
		expectDecode(t, o, want)
		for _, l := range o.lists() {
			overwrite(l, 77)
		}
		if !slices.Equal(second.Total, want.total) || !slices.Equal(second.Extrinsic, want.extrinsic) {
			t.Errorf("results for %v share memory with the arguments", kept)
		}
	}
}

// TestTheSameListTwice has arguments that share memory with each other.
func TestTheSameListTwice(t *testing.T) {
	random := rand.New(rand.NewSource(16))
	for _, k := range lengths[:8] {
		l := randomValues(random, k+3, 127)
		o := observation{l, l, l[:k]}
		expectResult(t, o, observation{slices.Clone(l), slices.Clone(l), slices.Clone(l[:k])}.byDefinition())
		expectResult(t, observation{l, l, l[3:]}, observation{slices.Clone(l), slices.Clone(l), slices.Clone(l[3:])}.byDefinition())
	}
}

// TestCapacityDoesNotCount has more elements behind the end of the arguments.
func TestCapacityDoesNotCount(t *testing.T) {
	o := fromSeries(8, 5)
	longer := observation{append(o.clone().systematic, 1, 128), append(o.clone().parity, 1, 128), append(o.clone().apriori, 1, 128)}
	bits := []byte{1, 0, 0, 1, 1, 1, 0, 1, 2, 1}
	x := observation{longer.systematic[:11], longer.parity[:11], longer.apriori[:8]}
	expectResult(t, x, known[4].result)
	expectMetric(t, x, bits[:8], o.metric(bits[:8]), api.OK)
	expectMetric(t, x, bits, 0, api.ErrArg)
	expectError(t, longer, bits, api.ErrRange, api.ErrRange)
}

// TestCallsDoNotDisturbEachOther uses iterators of several observations in turn, with other calls between their steps.
func TestCallsDoNotDisturbEachOther(t *testing.T) {
	a, b := fromSeries(8, 5), fromSeries(40, 6)
	first, second := forward(a), forward(b)
	var l []int
	for i, v := range second {
		l = append(l, v)
		if i%5 == 0 {
			expectResult(t, a, known[4].result)
			decode(a.having(1, 2, 128))
			metric(a, []byte{1, 1, 1, 1, 1, 1, 1, 1})
			if x, _ := steps(first, 1+i%11); !slices.Equal(x, known[4].forward[:1+i%11]) {
				t.Errorf("Forward of %v after other calls: %v", a, x)
			}
		}
	}
	if !slices.Equal(l, known[5].forward) {
		t.Errorf("Forward of %v with other calls between its steps: %v", b, l)
	}
}

// TestAnyArguments calls with values and bits of any kind, which never panics and returns the error that is listed first.
func TestAnyArguments(t *testing.T) {
	random := rand.New(rand.NewSource(17))
	for range 20000 {
		k := random.Intn(6)
		o := randomObservation(random, k, 127)
		bits := randomBits(random, k)
		lists := o.lists()
		want, wantOfMetric := api.OK, api.OK
		if random.Intn(4) == 0 && k > 0 {
			bits[random.Intn(k)] = noBits[random.Intn(len(noBits))]
			wantOfMetric = api.ErrBit
		}
		if random.Intn(4) == 0 {
			l := lists[random.Intn(2)]
			l[random.Intn(len(l))] = noValues[random.Intn(len(noValues))]
			want, wantOfMetric = api.ErrRange, api.ErrRange
		}
		if random.Intn(4) == 0 {
			bits = append(bits, 0)
			wantOfMetric = api.ErrArg
		}
		if i := random.Intn(12); i < 3 || k == 0 {
			lists[i%3] = append(lists[i%3], 0)
			want, wantOfMetric = api.ErrArg, api.ErrArg
		}
		o = observation{lists[0], lists[1], lists[2]}
		switch {
		case want != api.OK:
			expectError(t, o, bits, want, wantOfMetric)
		case wantOfMetric != api.OK:
			expectResult(t, o, o.byDefinition())
			expectMetric(t, o, bits, 0, wantOfMetric)
		default:
			expectResult(t, o, o.byDefinition())
			expectMetric(t, o, bits, o.metric(bits), api.OK)
		}
	}
}
