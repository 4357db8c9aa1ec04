package bitstr_test

import (
	"bytes"
	"iter"
	"math"
	"math/bits"
	"slices"
	"strconv"
	"strings"
	"testing"

	"userplane/api"
	"userplane/bitstr"
)

// digits returns the slice whose elements are the decimal digits of s.
func digits(s string) []byte {
	b := []byte{}
	for _, r := range s {
		b = append(b, byte(r-'0'))
	}
	return b
}

// allValid yields every valid bit slice of n elements.
func allValid(n int) iter.Seq[[]byte] {
	return func(yield func([]byte) bool) {
		for v := range 1 << n {
			b := make([]byte, n)
			for i := range b {
				b[i] = byte(v >> i & 1)
			}
			if !yield(b) {
				return
			}
		}
	}
}

type run struct {
	length  int
	element byte
}

func collect(seq iter.Seq2[int, byte]) []run {
	var l []run
	for length, element := range seq {
		l = append(l, run{length, element})
	}
	return l
}

// invalidPlaces are bit slices with one invalid element, at the places where a check may miss it.
func invalidPlaces() [][]byte {
	l := [][]byte{{2}, {255}}
	for _, n := range []int{2, 8, 9, 64, 65, 100} {
		for _, at := range []int{0, n / 2, n - 1} {
			b := make([]byte, n)
			b[at] = 2
			l = append(l, b)
		}
	}
	return l
}

// P1.1

func TestValid(t *testing.T) {
	for n := range 10 {
		for b := range allValid(n) {
			if !bitstr.Valid(b) {
				t.Errorf("Valid(%v) = false", b)
			}
		}
	}
	if !bitstr.Valid(nil) {
		t.Error("Valid(nil) = false")
	}
	for _, b := range invalidPlaces() {
		if bitstr.Valid(b) {
			t.Errorf("Valid(%v) = true", b)
		}
	}
	for x := range 256 {
		if got := bitstr.Valid([]byte{0, byte(x)}); got != (x < 2) {
			t.Errorf("Valid(0 %d) = %v", x, got)
		}
	}
}

func TestPack(t *testing.T) {
	for _, c := range []struct {
		in   string
		want []byte
	}{
		{"", nil},
		{"0", []byte{0}},
		{"1", []byte{0x80}},
		{"0000001", []byte{0x02}},
		{"00000001", []byte{0x01}},
		{"101000001", []byte{0xa0, 0x80}},
		{"0001001000110100", []byte{0x12, 0x34}},
		{"11111111111111111", []byte{0xff, 0xff, 0x80}},
	} {
		if got, e := bitstr.Pack(digits(c.in)); e != api.OK || !bytes.Equal(got, c.want) {
			t.Errorf("Pack(%s) = %x, %v; want %x", c.in, got, e, c.want)
		}
	}
	if got, e := bitstr.Pack(nil); e != api.OK || len(got) != 0 {
		t.Errorf("Pack(nil) = %x, %v", got, e)
	}
	for _, b := range invalidPlaces() {
		if got, e := bitstr.Pack(b); e != api.ErrBit || len(got) != 0 {
			t.Errorf("Pack(%v) = %x, %v; want ErrBit", b, got, e)
		}
	}
}

func TestUnpack(t *testing.T) {
	for _, c := range []struct {
		p    []byte
		n    int
		want string
	}{
		{nil, 0, ""},
		{[]byte{0xff}, 0, ""},
		{[]byte{0xa0, 0x80}, 9, "101000001"},
		{[]byte{0xa0, 0xff}, 9, "101000001"}, // the other bits do not matter
		{[]byte{0x12, 0x34}, 16, "0001001000110100"},
		{[]byte{0x12, 0x34, 0x56}, 3, "000"},
		{[]byte{0x01}, 8, "00000001"},
	} {
		if got, e := bitstr.Unpack(c.p, c.n); e != api.OK || !bytes.Equal(got, digits(c.want)) {
			t.Errorf("Unpack(%x, %d) = %v, %v; want %s", c.p, c.n, got, e, c.want)
		}
	}
	for _, c := range []struct {
		p    []byte
		n    int
		want api.Errno
	}{
		{nil, -1, api.ErrArg},
		{[]byte{0xa0}, -1, api.ErrArg},
		{[]byte{0xa0}, math.MinInt, api.ErrArg},
		{nil, 1, api.ErrShort},
		{[]byte{}, 1, api.ErrShort},
		{[]byte{0xa0}, 9, api.ErrShort},
		{[]byte{0xa0, 0x80}, 17, api.ErrShort},
		{[]byte{0xa0, 0x80}, math.MaxInt, api.ErrShort},
	} {
		if got, e := bitstr.Unpack(c.p, c.n); e != c.want || len(got) != 0 {
			t.Errorf("Unpack(%x, %d) = %v, %v; want error %v", c.p, c.n, got, e, c.want)
		}
	}
}

// P1.2

func TestFromUint(t *testing.T) {
	for _, c := range []struct {
		v    uint64
		n    int
		want string
	}{
		{0, 0, ""},
		{0, 3, "000"},
		{1, 1, "1"},
		{5, 4, "0101"},
		{5, 3, "101"},
		{0x8000000000000001, 64, "1" + strings.Repeat("0", 62) + "1"},
		{math.MaxUint64, 64, strings.Repeat("1", 64)},
		{math.MaxUint64 >> 1, 63, strings.Repeat("1", 63)},
	} {
		if got, e := bitstr.FromUint(c.v, c.n); e != api.OK || !bytes.Equal(got, digits(c.want)) {
			t.Errorf("FromUint(%d, %d) = %v, %v; want %s", c.v, c.n, got, e, c.want)
		}
	}
	for _, c := range []struct {
		v    uint64
		n    int
		want api.Errno
	}{
		{0, -1, api.ErrArg},
		{0, 65, api.ErrArg},
		{5, -1, api.ErrArg}, // before ErrLong
		{math.MaxUint64, math.MinInt, api.ErrArg},
		{math.MaxUint64, math.MaxInt, api.ErrArg},
		{1, 0, api.ErrLong},
		{2, 1, api.ErrLong},
		{5, 2, api.ErrLong},
		{1 << 63, 63, api.ErrLong},
		{math.MaxUint64, 63, api.ErrLong},
	} {
		if got, e := bitstr.FromUint(c.v, c.n); e != c.want || len(got) != 0 {
			t.Errorf("FromUint(%d, %d) = %v, %v; want error %v", c.v, c.n, got, e, c.want)
		}
	}
}

func TestUint(t *testing.T) {
	for _, c := range []struct {
		in   string
		want uint64
	}{
		{"", 0},
		{"0", 0},
		{"0101", 5},
		{"100000000", 256},
		{strings.Repeat("0", 64), 0},
		{strings.Repeat("1", 64), math.MaxUint64},
		{"1" + strings.Repeat("0", 63), 1 << 63},
	} {
		if got, e := bitstr.Uint(digits(c.in)); e != api.OK || got != c.want {
			t.Errorf("Uint(%s) = %d, %v; want %d", c.in, got, e, c.want)
		}
	}
	if got, e := bitstr.Uint(nil); e != api.OK || got != 0 {
		t.Errorf("Uint(nil) = %d, %v", got, e)
	}
	for _, n := range []int{65, 100} {
		for _, x := range []byte{0, 1} {
			if got, e := bitstr.Uint(bytes.Repeat([]byte{x}, n)); e != api.ErrLong || got != 0 {
				t.Errorf("Uint of %d times %d = %d, %v; want ErrLong", n, x, got, e)
			}
		}
	}
	for _, b := range invalidPlaces() { // of more than 64 elements, too: ErrBit comes before ErrLong
		if got, e := bitstr.Uint(b); e != api.ErrBit || got != 0 {
			t.Errorf("Uint(%v) = %d, %v; want ErrBit", b, got, e)
		}
	}
}

// P1.3

func TestXorAndDistance(t *testing.T) {
	for _, c := range []struct {
		a, b, xor string
		distance  int
	}{
		{"", "", "", 0},
		{"0", "0", "0", 0},
		{"1", "0", "1", 1},
		{"0", "1", "1", 1},
		{"1", "1", "0", 0},
		{"110", "011", "101", 2},
		{"1111111111", "0000000000", "1111111111", 10},
	} {
		if got, e := bitstr.Xor(digits(c.a), digits(c.b)); e != api.OK || !bytes.Equal(got, digits(c.xor)) {
			t.Errorf("Xor(%s, %s) = %v, %v; want %s", c.a, c.b, got, e, c.xor)
		}
		if got, e := bitstr.Distance(digits(c.a), digits(c.b)); e != api.OK || got != c.distance {
			t.Errorf("Distance(%s, %s) = %d, %v; want %d", c.a, c.b, got, e, c.distance)
		}
	}
	if got, e := bitstr.Xor(nil, []byte{}); e != api.OK || len(got) != 0 {
		t.Errorf("Xor(nil, empty) = %v, %v", got, e)
	}
}

func TestXorAndDistanceErrors(t *testing.T) {
	check := func(a, b []byte, want api.Errno) {
		t.Helper()
		if got, e := bitstr.Xor(a, b); e != want || len(got) != 0 {
			t.Errorf("Xor(%v, %v) = %v, %v; want error %v", a, b, got, e, want)
		}
		if got, e := bitstr.Distance(a, b); e != want || got != 0 {
			t.Errorf("Distance(%v, %v) = %d, %v; want error %v", a, b, got, e, want)
		}
	}
	check(digits("1"), digits("11"), api.ErrArg)
	check(digits("11"), digits("1"), api.ErrArg)
	check(nil, digits("1"), api.ErrArg)
	check(digits("2"), nil, api.ErrArg) // before ErrBit
	check(digits("11"), digits("2"), api.ErrArg)
	check(digits("2"), digits("2"), api.ErrBit) // their exclusive or would be valid
	for _, b := range invalidPlaces() {
		good := make([]byte, len(b))
		check(b, good, api.ErrBit)
		check(good, b, api.ErrBit)
	}
}

func TestWeight(t *testing.T) {
	for _, c := range []struct {
		in   string
		want int
	}{
		{"", 0},
		{"0", 0},
		{"1", 1},
		{"110", 2},
		{"10101", 3},
		{"0110111", 5},
		{"2", 0}, // elements that are not bits do not count
		{"3121", 2},
	} {
		if got := bitstr.Weight(digits(c.in)); got != c.want {
			t.Errorf("Weight(%s) = %d; want %d", c.in, got, c.want)
		}
	}
	if got := bitstr.Weight(nil); got != 0 {
		t.Errorf("Weight(nil) = %d", got)
	}
	if got := bitstr.Weight([]byte{255, 1, 129}); got != 1 {
		t.Errorf("Weight(255 1 129) = %d; want 1", got)
	}
}

func TestConcat(t *testing.T) {
	for _, c := range []struct {
		parts []string
		want  string
	}{
		{nil, ""},
		{[]string{""}, ""},
		{[]string{"", "", ""}, ""},
		{[]string{"10"}, "10"},
		{[]string{"1", "", "001", "1"}, "10011"},
		{[]string{"01", "01", "1"}, "01011"},
	} {
		var parts [][]byte
		for _, p := range c.parts {
			parts = append(parts, digits(p))
		}
		if got, e := bitstr.Concat(parts...); e != api.OK || !bytes.Equal(got, digits(c.want)) {
			t.Errorf("Concat(%v) = %v, %v; want %s", c.parts, got, e, c.want)
		}
	}
	if got, e := bitstr.Concat(nil, digits("1"), nil); e != api.OK || !bytes.Equal(got, []byte{1}) {
		t.Errorf("Concat(nil, 1, nil) = %v, %v", got, e)
	}
	for _, b := range invalidPlaces() {
		for _, parts := range [][][]byte{{b}, {b, {1}}, {{1}, b}, {nil, {0}, b, {1}}} {
			if got, e := bitstr.Concat(parts...); e != api.ErrBit || len(got) != 0 {
				t.Errorf("Concat(%v) = %v, %v; want ErrBit", parts, got, e)
			}
		}
	}
}

// P1.4

func TestRuns(t *testing.T) {
	for _, c := range []struct {
		in   []byte
		want []run
	}{
		{nil, nil},
		{[]byte{}, nil},
		{[]byte{0}, []run{{1, 0}}},
		{[]byte{1, 1, 1}, []run{{3, 1}}},
		{[]byte{0, 0, 1, 0}, []run{{2, 0}, {1, 1}, {1, 0}}},
		{[]byte{1, 0, 0, 0, 1, 1}, []run{{1, 1}, {3, 0}, {2, 1}}},
		{[]byte{7, 7, 255, 1, 3, 3}, []run{{2, 7}, {1, 255}, {1, 1}, {2, 3}}}, // for any b
	} {
		if got := collect(bitstr.Runs(c.in)); !slices.Equal(got, c.want) {
			t.Errorf("Runs(%v) = %v; want %v", c.in, got, c.want)
		}
	}
}

func TestRunsLeftEarlyAndUsedAgain(t *testing.T) {
	seq := bitstr.Runs([]byte{0, 0, 1, 0})
	want := []run{{2, 0}, {1, 1}, {1, 0}}
	for stop := 1; stop <= len(want); stop++ {
		var got []run
		for length, element := range seq {
			got = append(got, run{length, element})
			if len(got) == stop {
				break
			}
		}
		if !slices.Equal(got, want[:stop]) {
			t.Errorf("left after %d runs: %v", stop, got)
		}
	}
	for range 2 {
		if got := collect(seq); !slices.Equal(got, want) {
			t.Errorf("used again: %v", got)
		}
	}
	for range seq { // nested loops do not disturb each other
		if got := collect(seq); !slices.Equal(got, want) {
			t.Errorf("nested: %v", got)
		}
	}
}

func TestRunsOfTheTimeOfTheCall(t *testing.T) {
	b := []byte{0, 0, 1, 0}
	want := []run{{2, 0}, {1, 1}, {1, 0}}
	seq := bitstr.Runs(b)
	b[0] = 1
	if got := collect(seq); !slices.Equal(got, want) {
		t.Errorf("changed after the call: %v", got)
	}
	b = []byte{0, 0, 1, 0}
	var got []run
	for length, element := range bitstr.Runs(b) {
		got = append(got, run{length, element})
		clear(b)
	}
	if !slices.Equal(got, want) {
		t.Errorf("changed in the loop: %v", got)
	}
}

// P1.5

func TestUnpackInvertsPack(t *testing.T) {
	check := func(b []byte) {
		t.Helper()
		p, e := bitstr.Pack(b)
		if e != api.OK || len(p) != (len(b)+7)/8 {
			t.Fatalf("Pack(%v) = %x, %v", b, p, e)
		}
		if got, e := bitstr.Unpack(p, len(b)); e != api.OK || !bytes.Equal(got, b) {
			t.Fatalf("Unpack(%x, %d) = %v, %v; want %v", p, len(b), got, e, b)
		}
		all, _ := bitstr.Unpack(p, 8*len(p))
		if bitstr.Weight(all[len(b):]) != 0 {
			t.Fatalf("Pack(%v) = %x: unused bits are not 0", b, p)
		}
	}
	for n := range 13 {
		for b := range allValid(n) {
			check(b)
		}
	}
	long := make([]byte, api.MaxBits)
	for i := range long {
		long[i] = byte(bits.OnesCount(uint(i)) & 1)
	}
	check(long)
}

func TestUintInvertsFromUint(t *testing.T) {
	for n := range 65 {
		for _, v := range []uint64{0, 1, 2, 5, 0x0123456789abcdef, 0xfedcba9876543210, 1 << 63, math.MaxUint64} {
			if n < 64 {
				v &= 1<<n - 1
			}
			b, e := bitstr.FromUint(v, n)
			if e != api.OK || len(b) != n {
				t.Fatalf("FromUint(%d, %d) = %v, %v", v, n, b, e)
			}
			if got, e := bitstr.Uint(b); e != api.OK || got != v {
				t.Errorf("Uint(%v) = %d, %v; want %d", b, got, e, v)
			}
			text := strconv.FormatUint(v, 2)
			if v > 0 && !bytes.Equal(b[n-len(text):], digits(text)) {
				t.Errorf("FromUint(%d, %d) = %v", v, n, b)
			}
		}
	}
	for n := range 10 {
		for b := range allValid(n) {
			v, _ := bitstr.Uint(b)
			if got, e := bitstr.FromUint(v, n); e != api.OK || !bytes.Equal(got, b) {
				t.Errorf("FromUint(%d, %d) = %v, %v; want %v", v, n, got, e, b)
			}
		}
	}
}

func TestDistanceIsAMetric(t *testing.T) {
	distance := func(a, b []byte) int {
		d, e := bitstr.Distance(a, b)
		if e != api.OK {
			t.Fatalf("Distance(%v, %v): %v", a, b, e)
		}
		return d
	}
	sum := func(a, b []byte) []byte {
		x, e := bitstr.Xor(a, b)
		if e != api.OK {
			t.Fatalf("Xor(%v, %v): %v", a, b, e)
		}
		return x
	}
	for n := range 6 {
		for a := range allValid(n) {
			for b := range allValid(n) {
				d := distance(a, b)
				if d < 0 || (d == 0) != bytes.Equal(a, b) || d != distance(b, a) || d != bitstr.Weight(sum(a, b)) {
					t.Fatalf("Distance(%v, %v) = %d", a, b, d)
				}
				for c := range allValid(n) {
					if d > distance(a, c)+distance(c, b) {
						t.Fatalf("the way from %v to %v is shorter through %v", a, b, c)
					}
					if d != distance(sum(a, c), sum(b, c)) {
						t.Fatalf("adding %v changes the distance of %v and %v", c, a, b)
					}
				}
			}
		}
	}
}

func TestRunsCoverTheSlice(t *testing.T) {
	check := func(b []byte) {
		t.Helper()
		var joined []byte
		last := -1
		for length, element := range bitstr.Runs(b) {
			if length < 1 || int(element) == last {
				t.Fatalf("Runs(%v): a run of %d times %d after %d", b, length, element, last)
			}
			joined = append(joined, bytes.Repeat([]byte{element}, length)...)
			last = int(element)
		}
		if !bytes.Equal(joined, b) {
			t.Fatalf("Runs(%v) add up to %v", b, joined)
		}
	}
	for n := range 11 {
		for b := range allValid(n) {
			check(b)
		}
	}
	check([]byte{9, 9, 0, 2, 2, 2, 255})
}

// P1 and the document's section Rules

func TestArgumentsAndResultsShareNoMemory(t *testing.T) {
	a, b := digits("110"), digits("011")
	results := map[string]func() ([]byte, api.Errno){
		"Pack":            func() ([]byte, api.Errno) { return bitstr.Pack(a) },
		"Unpack":          func() ([]byte, api.Errno) { return bitstr.Unpack(a, 24) },
		"Xor":             func() ([]byte, api.Errno) { return bitstr.Xor(a, b) },
		"Concat of one":   func() ([]byte, api.Errno) { return bitstr.Concat(a) },
		"Concat of two":   func() ([]byte, api.Errno) { return bitstr.Concat(a, b) },
		"Concat of equal": func() ([]byte, api.Errno) { return bitstr.Concat(nil, a, a) },
	}
	for name, call := range results {
		first, e := call()
		second, _ := call()
		if e != api.OK || !bytes.Equal(first, second) {
			t.Errorf("%s: %v, %v, and again %v", name, first, e, second)
		}
		want := slices.Clone(second)
		for i := range first[:cap(first)] {
			first[:cap(first)][i] = 77
		}
		if !bytes.Equal(a, digits("110")) || !bytes.Equal(b, digits("011")) || !bytes.Equal(second, want) {
			t.Errorf("%s: the result shares memory", name)
		}
	}
}

func TestArgumentsAreNotModified(t *testing.T) {
	// Room behind the elements must stay as it is, too.
	whole := digits("1011110")
	a, b := whole[1:4], whole[3:6]
	bitstr.Valid(a)
	bitstr.Pack(a)
	bitstr.Unpack(a, 20)
	bitstr.Uint(a)
	bitstr.Xor(a, b)
	bitstr.Distance(a, b)
	bitstr.Weight(a)
	bitstr.Concat(a, b, a)
	for range bitstr.Runs(a) {
	}
	if !bytes.Equal(whole, digits("1011110")) {
		t.Errorf("modified: %v", whole)
	}
}

func TestEveryErrorComesWithZeroResults(t *testing.T) {
	slicesOfBytes := append(invalidPlaces(), nil, []byte{}, []byte{0}, []byte{1, 1}, make([]byte, 65))
	lengths := []int{math.MinInt, -8, -1, 0, 1, 7, 8, 9, 63, 64, 65, 520, 521, math.MaxInt - 7, math.MaxInt}
	check := func(name string, length int, e api.Errno) {
		t.Helper()
		if e != api.OK && length != 0 {
			t.Errorf("%s: a result of %d with error %v", name, length, e)
		}
	}
	for _, a := range slicesOfBytes {
		p, e := bitstr.Pack(a)
		check("Pack", len(p), e)
		v, e := bitstr.Uint(a)
		check("Uint", int(v), e)
		for _, n := range lengths {
			u, e := bitstr.Unpack(a, n)
			check("Unpack", len(u), e)
			if e == api.OK && (len(u) != n || !bitstr.Valid(u)) {
				t.Errorf("Unpack(%x, %d) = %v", a, n, u)
			}
		}
		for _, b := range slicesOfBytes {
			x, e := bitstr.Xor(a, b)
			check("Xor", len(x), e)
			d, f := bitstr.Distance(a, b)
			check("Distance", d, f)
			c, g := bitstr.Concat(a, b)
			check("Concat", len(c), g)
			if e != f || (g == api.OK) != (bitstr.Valid(a) && bitstr.Valid(b)) {
				t.Errorf("errors of %v and %v: %v %v %v", a, b, e, f, g)
			}
		}
	}
	for _, n := range lengths {
		for _, v := range []uint64{0, 1, 255, math.MaxUint64} {
			b, e := bitstr.FromUint(v, n)
			check("FromUint", len(b), e)
		}
	}
}
