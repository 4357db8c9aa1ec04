package crc_test

import (
	"bytes"
	"iter"
	"math"
	"math/bits"
	"math/rand"
	"slices"
	"testing"

	"userplane/api"
	"userplane/crc"
)

// generators are the exponents of the generators' terms, written out independently of the hexadecimal numbers in the program.
var generators = map[crc.Kind][]int{
	crc.CRC24A: {24, 23, 18, 17, 14, 11, 10, 7, 6, 5, 4, 3, 1, 0},
	crc.CRC24B: {24, 23, 6, 5, 1, 0},
	crc.CRC16:  {16, 12, 5, 0},
	crc.CRC8:   {8, 7, 4, 3, 1, 0},
}

var allKinds = []crc.Kind{crc.CRC24A, crc.CRC24B, crc.CRC16, crc.CRC8}

// noKinds are outside the table, some of them equal to a kind if they were cut to fewer bits.
var noKinds = []crc.Kind{0, 5, 6, -1, -4, 257, 260, 1<<16 + 1, math.MinInt32, math.MinInt, math.MaxInt32, math.MaxInt}

// digits returns the slice whose elements are the decimal digits of s.
func digits(s string) []byte {
	b := []byte{}
	for _, r := range s {
		b = append(b, byte(r-'0'))
	}
	return b
}

// binary returns the lowest n bits of v, the most significant first.
func binary(v, n int) []byte {
	b := make([]byte, n)
	for i := range b {
		b[n-1-i] = byte(v >> i & 1)
	}
	return b
}

// allValid yields every valid bit slice of n elements.
func allValid(n int) iter.Seq[[]byte] {
	return func(yield func([]byte) bool) {
		for v := range 1 << n {
			if !yield(binary(v, n)) {
				return
			}
		}
	}
}

func randomBits(random *rand.Rand, n int) []byte {
	b := make([]byte, n)
	for i := range b {
		b[i] = byte(random.Intn(2))
	}
	return b
}

// messages yields bit slices: all of the short ones, and some that are longer.
func messages() iter.Seq[[]byte] {
	return func(yield func([]byte) bool) {
		for n := range 9 {
			for b := range allValid(n) {
				if !yield(b) {
					return
				}
			}
		}
		random := rand.New(rand.NewSource(3))
		for _, n := range []int{9, 15, 16, 17, 23, 24, 25, 31, 32, 33, 63, 64, 65, 100, 1000, api.MinBlock, api.MaxBlock} {
			for _, b := range [][]byte{make([]byte, n), bytes.Repeat([]byte{1}, n), randomBits(random, n), randomBits(random, n)} {
				if !yield(b) {
					return
				}
			}
		}
	}
}

// invalidPlaces are bit slices with invalid elements, at the places where a check may miss them.
func invalidPlaces() [][]byte {
	l := [][]byte{{2}, {255}, {128}, {254}, {1, 0, 3}}
	for _, n := range []int{2, 8, 15, 16, 17, 24, 25, 100} {
		for _, at := range []int{0, n / 2, n - 1} {
			b := make([]byte, n)
			b[at] = 2
			l = append(l, b)
		}
	}
	return l
}

// longDivision returns the remainder of b times x^L divided by the generator of k.
func longDivision(k crc.Kind, b []byte) []byte {
	terms := generators[k]
	degree := terms[0]
	rest := slices.Concat(b, make([]byte, degree))
	for i := range b {
		if rest[i] == 0 {
			continue
		}
		for _, x := range terms {
			rest[i+degree-x] ^= 1
		}
	}
	return rest[len(b):]
}

func compute(t *testing.T, k crc.Kind, b []byte) []byte {
	t.Helper()
	sum, e := crc.Compute(k, b)
	if e != api.OK {
		t.Fatalf("Compute(%d, %v): error %v", k, b, e)
	}
	return sum
}

func attach(t *testing.T, k crc.Kind, b []byte) []byte {
	t.Helper()
	whole, e := crc.Attach(k, b)
	if e != api.OK {
		t.Fatalf("Attach(%d, %v): error %v", k, b, e)
	}
	return whole
}

func mask(t *testing.T, b []byte, id uint16) []byte {
	t.Helper()
	masked, e := crc.Mask(b, id)
	if e != api.OK {
		t.Fatalf("Mask(%v, %#x): error %v", b, id, e)
	}
	return masked
}

// expectCheck checks the result of Check, which is empty if an error is expected.
func expectCheck(t *testing.T, k crc.Kind, b, want []byte, wantError api.Errno) {
	t.Helper()
	if got, e := crc.Check(k, b); e != wantError || !bytes.Equal(got, want) {
		t.Errorf("Check(%d, %v) = %v, %v; want %v, %v", k, b, got, e, want, wantError)
	}
}

// expectErrors checks the errors of Compute, Attach and Check, which have no result beside them.
func expectErrors(t *testing.T, k crc.Kind, b []byte, want api.Errno) {
	t.Helper()
	calls := map[string]func(crc.Kind, []byte) ([]byte, api.Errno){"Compute": crc.Compute, "Attach": crc.Attach, "Check": crc.Check}
	for name, call := range calls {
		if got, e := call(k, b); e != want || len(got) != 0 {
			t.Errorf("%s(%d, %v) = %v, %v; want error %v", name, k, b, got, e, want)
		}
	}
}

func TestExamples(t *testing.T) {
	for _, c := range []struct {
		kind     crc.Kind
		in, want string
	}{
		{crc.CRC8, "1", "10011011"},
		{crc.CRC8, "10", "10101101"},
		{crc.CRC16, "1", "0001000000100001"},
	} {
		if got, e := crc.Compute(c.kind, digits(c.in)); e != api.OK || !bytes.Equal(got, digits(c.want)) {
			t.Errorf("Compute(%d, %s) = %v, %v; want %s", c.kind, c.in, got, e, c.want)
		}
	}
	expectCheck(t, crc.CRC8, digits("110011011"), []byte{1}, api.OK)
	expectCheck(t, crc.CRC8, digits("010011011"), nil, api.ErrCheck)
}

// P3.1

func TestKinds(t *testing.T) {
	if crc.CRC24A != 1 || crc.CRC24B != 2 || crc.CRC16 != 3 || crc.CRC8 != 4 {
		t.Error(crc.CRC24A, crc.CRC24B, crc.CRC16, crc.CRC8)
	}
}

func TestLen(t *testing.T) {
	for k, want := range map[crc.Kind]int{crc.CRC24A: 24, crc.CRC24B: 24, crc.CRC16: 16, crc.CRC8: 8} {
		if got := crc.Len(k); got != want {
			t.Errorf("Len(%d) = %d; want %d", k, got, want)
		}
	}
	for _, k := range noKinds {
		if got := crc.Len(k); got != 0 {
			t.Errorf("Len(%d) = %d; want 0", k, got)
		}
	}
}

func TestComputeOfOneBitIsTheGenerator(t *testing.T) {
	for k, low := range map[crc.Kind]int{crc.CRC24A: 0x864CFB, crc.CRC24B: 0x800063, crc.CRC16: 0x1021, crc.CRC8: 0x9B} {
		if got, want := compute(t, k, []byte{1}), binary(low, crc.Len(k)); !bytes.Equal(got, want) {
			t.Errorf("Compute(%d, 1) = %v; want %v", k, got, want)
		}
	}
}

// TestComputeOfKnownText uses the check values that are published for these checksums.
func TestComputeOfKnownText(t *testing.T) {
	var text []byte
	for _, r := range "123456789" {
		text = append(text, binary(int(r), 8)...)
	}
	for k, sum := range map[crc.Kind]int{crc.CRC24A: 0xCDE703, crc.CRC24B: 0x23EF52, crc.CRC16: 0x31C3, crc.CRC8: 0xEA} {
		if got, want := compute(t, k, text), binary(sum, crc.Len(k)); !bytes.Equal(got, want) {
			t.Errorf("Compute(%d, text) = %v; want %v", k, got, want)
		}
	}
}

func TestComputeIsTheRemainder(t *testing.T) {
	for b := range messages() {
		for _, k := range allKinds {
			if got, want := compute(t, k, b), longDivision(k, b); !bytes.Equal(got, want) {
				t.Fatalf("Compute(%d, %v) = %v; want %v", k, b, got, want)
			}
		}
	}
}

func TestComputeOfNoBits(t *testing.T) {
	for _, k := range allKinds {
		for _, b := range [][]byte{nil, {}} {
			if got := compute(t, k, b); !bytes.Equal(got, make([]byte, crc.Len(k))) {
				t.Errorf("Compute(%d, %v) = %v", k, b, got)
			}
		}
	}
}

// P3.2

func TestAttach(t *testing.T) {
	for b := range messages() {
		for _, k := range allKinds {
			if got, want := attach(t, k, b), slices.Concat(b, longDivision(k, b)); !bytes.Equal(got, want) {
				t.Fatalf("Attach(%d, %v) = %v; want %v", k, b, got, want)
			}
		}
	}
	for _, k := range allKinds {
		if got := attach(t, k, nil); !bytes.Equal(got, make([]byte, crc.Len(k))) {
			t.Errorf("Attach(%d, nil) = %v", k, got)
		}
	}
}

func TestCheck(t *testing.T) {
	for b := range messages() {
		for _, k := range allKinds {
			expectCheck(t, k, slices.Concat(b, longDivision(k, b)), b, api.OK)
		}
	}
}

// TestCheckOfEveryChecksum tries every last part of a slice: one of them is the checksum.
func TestCheckOfEveryChecksum(t *testing.T) {
	for _, b := range [][]byte{nil, {0}, {1}, digits("1100101")} {
		for sum := range allValid(8) {
			whole := slices.Concat(b, sum)
			if bytes.Equal(sum, longDivision(crc.CRC8, b)) {
				expectCheck(t, crc.CRC8, whole, b, api.OK)
			} else {
				expectCheck(t, crc.CRC8, whole, nil, api.ErrCheck)
			}
		}
	}
}

func TestCheckOfExactlyTheLength(t *testing.T) {
	for _, k := range allKinds {
		n := crc.Len(k)
		expectCheck(t, k, make([]byte, n), nil, api.OK)
		expectCheck(t, k, bytes.Repeat([]byte{1}, n), nil, api.ErrCheck)
		for at := range n {
			b := make([]byte, n)
			b[at] = 1
			expectCheck(t, k, b, nil, api.ErrCheck)
		}
	}
}

func TestCheckOfFewerBits(t *testing.T) {
	for _, k := range allKinds {
		expectCheck(t, k, nil, nil, api.ErrShort)
		for n := range crc.Len(k) {
			expectCheck(t, k, make([]byte, n), nil, api.ErrShort)
			expectCheck(t, k, bytes.Repeat([]byte{1}, n), nil, api.ErrShort)
		}
	}
}

func TestCheckUsesTheKind(t *testing.T) {
	b := digits("101100101110010011010111")
	for _, k := range allKinds {
		for _, other := range allKinds {
			if k != other {
				expectCheck(t, other, attach(t, k, b), nil, api.ErrCheck)
			}
		}
	}
}

// The errors of P3.1 and P3.2, in their order

func TestNoSuchKind(t *testing.T) {
	for _, k := range noKinds {
		expectErrors(t, k, nil, api.ErrArg)
		expectErrors(t, k, []byte{1}, api.ErrArg)
		expectErrors(t, k, make([]byte, 40), api.ErrArg)
		expectErrors(t, k, bytes.Repeat([]byte{1}, 40), api.ErrArg)
		expectErrors(t, k, []byte{2}, api.ErrArg)                   // before ErrBit
		expectErrors(t, k, bytes.Repeat([]byte{2}, 40), api.ErrArg) // before ErrBit
	}
}

func TestElementsThatAreNoBits(t *testing.T) {
	for _, k := range allKinds {
		for _, b := range invalidPlaces() { // fewer than L elements, too: ErrBit comes before ErrShort and ErrCheck
			expectErrors(t, k, b, api.ErrBit)
		}
		for x := 2; x < 256; x++ {
			expectErrors(t, k, []byte{0, byte(x), 1}, api.ErrBit)
		}
		whole := attach(t, k, digits("1011001"))
		for at := range whole { // in the message and in the checksum
			b := slices.Clone(whole)
			b[at] += 2
			expectErrors(t, k, b, api.ErrBit)
		}
	}
}

// P3.3

func TestMask(t *testing.T) {
	for _, c := range []struct {
		in   string
		id   uint16
		want string
	}{
		{"0000000000000000", 0, "0000000000000000"},
		{"0000000000000000", 1, "0000000000000001"},
		{"0000000000000000", 0x8000, "1000000000000000"},
		{"0000000000000000", 0x1234, "0001001000110100"},
		{"0000000000000000", 0xffff, "1111111111111111"},
		{"1111111111111111", 0x1234, "1110110111001011"},
		{"10000000000000000", 0x8003, "11000000000000011"},
		{"11111111111111111", 0xffff, "10000000000000000"},
		{"1010" + "0101010101010101", 0x0ff0, "1010" + "0101101010100101"},
	} {
		if got, e := crc.Mask(digits(c.in), c.id); e != api.OK || !bytes.Equal(got, digits(c.want)) {
			t.Errorf("Mask(%s, %#x) = %v, %v; want %s", c.in, c.id, got, e, c.want)
		}
	}
}

func TestMaskOfEveryID(t *testing.T) {
	b := digits("110" + "1001011100101101")
	for id := range 1 << 16 {
		want := slices.Clone(b)
		for i, bit := range binary(id, 16) {
			want[3+i] = (want[3+i] + bit) % 2
		}
		if got := mask(t, b, uint16(id)); !bytes.Equal(got, want) {
			t.Fatalf("Mask(%v, %#x) = %v; want %v", b, id, got, want)
		}
	}
}

func TestMaskErrors(t *testing.T) {
	expect := func(b []byte, want api.Errno) {
		t.Helper()
		for _, id := range []uint16{0, 1, 0xffff} {
			if got, e := crc.Mask(b, id); e != want || len(got) != 0 {
				t.Errorf("Mask(%v, %#x) = %v, %v; want error %v", b, id, got, e, want)
			}
		}
	}
	expect(nil, api.ErrShort)
	for n := range 16 {
		expect(make([]byte, n), api.ErrShort)
		expect(bytes.Repeat([]byte{1}, n), api.ErrShort)
	}
	for _, b := range invalidPlaces() { // fewer than 16 elements, too: ErrBit comes before ErrShort
		expect(b, api.ErrBit)
	}
}

// P3.4

func TestCheckOfAttachReturnsTheBits(t *testing.T) {
	for b := range messages() {
		for _, k := range allKinds {
			expectCheck(t, k, attach(t, k, b), b, api.OK)
		}
	}
}

func TestTheChecksumOfASumIsTheSumOfTheChecksums(t *testing.T) {
	sum := func(a, b []byte) []byte {
		c := slices.Clone(a)
		for i := range c {
			c[i] ^= b[i]
		}
		return c
	}
	expect := func(a, b []byte) {
		t.Helper()
		for _, k := range allKinds {
			if got, want := compute(t, k, sum(a, b)), sum(compute(t, k, a), compute(t, k, b)); !bytes.Equal(got, want) {
				t.Fatalf("kind %d: the checksum of the sum of %v and %v is %v; want %v", k, a, b, got, want)
			}
		}
	}
	for n := range 6 {
		for a := range allValid(n) {
			for b := range allValid(n) {
				expect(a, b)
			}
		}
	}
	random := rand.New(rand.NewSource(4))
	for n := range 300 {
		expect(randomBits(random, n), randomBits(random, n))
	}
}

func TestTheChecksumOfAttachedBitsIsZero(t *testing.T) {
	for b := range messages() {
		for _, k := range allKinds {
			if got := compute(t, k, attach(t, k, b)); !bytes.Equal(got, make([]byte, crc.Len(k))) {
				t.Fatalf("kind %d: the checksum of %v with its checksum is %v", k, b, got)
			}
		}
	}
}

// change returns b with the elements of which change has a 1 changed; its highest bit is for the element at start.
func change(b []byte, start, change int) []byte {
	c := slices.Clone(b)
	for i, bit := range binary(change, bits.Len(uint(change))) {
		c[start+i] ^= bit
	}
	return c
}

// expectDetected makes each of the changes wherever it fits.
func expectDetected(t *testing.T, k crc.Kind, b []byte, changes iter.Seq[int]) {
	t.Helper()
	whole := attach(t, k, b)
	for v := range changes {
		for start := range len(whole) - bits.Len(uint(v)) + 1 {
			c := change(whole, start, v)
			if got, e := crc.Check(k, c); e != api.ErrCheck || len(got) != 0 {
				t.Fatalf("kind %d: changing %v to %v gives %v, %v", k, whole, c, got, e)
			}
		}
	}
}

// upTo yields the changes within n elements that start with a changed one.
func upTo(n int) iter.Seq[int] {
	return func(yield func(int) bool) {
		for v := 1; v < 1<<n; v++ {
			if !yield(v) {
				return
			}
		}
	}
}

// someUpTo yields changes within n elements: one, two or all elements, and others at random.
func someUpTo(n int) iter.Seq[int] {
	return func(yield func(int) bool) {
		random := rand.New(rand.NewSource(5))
		for i := range n {
			for _, v := range []int{1 << i, 1<<i | 1, 1<<(i+1) - 1} {
				if !yield(v) {
					return
				}
			}
		}
		for range 2000 {
			if !yield(random.Intn(1<<n-1) + 1) {
				return
			}
		}
	}
}

func TestChangesWithinTheLengthAreDetected(t *testing.T) {
	for _, b := range [][]byte{nil, {1}, digits("0110100"), bytes.Repeat([]byte{1}, 40)} {
		expectDetected(t, crc.CRC8, b, upTo(8))
		for _, k := range allKinds {
			expectDetected(t, k, b, someUpTo(crc.Len(k)))
		}
	}
	expectDetected(t, crc.CRC16, digits("10"), upTo(16))
}

// TestAChangeByTheGeneratorIsNotDetected shows that the changes above are the longest that are always detected.
func TestAChangeByTheGeneratorIsNotDetected(t *testing.T) {
	for _, k := range allKinds {
		v := 0
		for _, x := range generators[k] {
			v |= 1 << x
		}
		b := digits("0110100")
		whole := attach(t, k, b)
		for start := range len(b) {
			c := change(whole, start, v)
			expectCheck(t, k, c, c[:len(b)], api.OK)
		}
	}
}

func TestMaskTwiceReturnsTheBits(t *testing.T) {
	ids := []uint16{0, 1, 2, 0x1234, 0x8000, 0xfffe, 0xffff}
	for b := range messages() {
		if len(b) < 16 {
			b = slices.Concat(b, make([]byte, 16))
		}
		for _, id := range ids {
			if got := mask(t, mask(t, b, id), id); !bytes.Equal(got, b) {
				t.Fatalf("Mask twice of %v with %#x = %v", b, id, got)
			}
		}
	}
}

func TestMaskedBitsFailTheCheck(t *testing.T) {
	for _, b := range [][]byte{nil, {1}, digits("10110111000101101")} {
		whole := attach(t, crc.CRC16, b)
		expectCheck(t, crc.CRC16, mask(t, whole, 0), b, api.OK)
		for id := 1; id < 1<<16; id++ {
			if got, e := crc.Check(crc.CRC16, mask(t, whole, uint16(id))); e != api.ErrCheck || len(got) != 0 {
				t.Fatalf("Check of %v masked with %#x = %v, %v", whole, id, got, e)
			}
		}
	}
}

// P1 and the document's section Rules

// checked returns a slice with a valid checksum of k.
func checked(t *testing.T, k crc.Kind) []byte {
	t.Helper()
	return attach(t, k, digits("110100111001011000111"))
}

func TestArgumentsAndResultsShareNoMemory(t *testing.T) {
	for _, k := range allKinds {
		want := checked(t, k)
		for name, call := range map[string]func([]byte) ([]byte, api.Errno){
			"Compute": func(b []byte) ([]byte, api.Errno) { return crc.Compute(k, b) },
			"Attach":  func(b []byte) ([]byte, api.Errno) { return crc.Attach(k, b) },
			"Check":   func(b []byte) ([]byte, api.Errno) { return crc.Check(k, b) },
			"Mask":    func(b []byte) ([]byte, api.Errno) { return crc.Mask(b, 0x5a) },
			"Mask 0":  func(b []byte) ([]byte, api.Errno) { return crc.Mask(b, 0) },
		} {
			b := slices.Clone(want)
			first, e := call(b)
			second, _ := call(b)
			if e != api.OK || !bytes.Equal(first, second) {
				t.Errorf("%s of kind %d: %v, %v, and again %v", name, k, first, e, second)
			}
			kept := slices.Clone(second)
			for i := range first[:cap(first)] {
				first[:cap(first)][i] = 77
			}
			if !bytes.Equal(b, want) || !bytes.Equal(second, kept) {
				t.Errorf("%s of kind %d: the result shares memory", name, k)
			}
			clear(b)
			if !bytes.Equal(second, kept) {
				t.Errorf("%s of kind %d: the result changes with the argument", name, k)
			}
			if third, e := call(slices.Clone(want)); e != api.OK || !bytes.Equal(third, kept) {
				t.Errorf("%s of kind %d: called again: %v, %v; want %v", name, k, third, e, kept)
			}
		}
	}
}

func TestArgumentsAreNotModified(t *testing.T) {
	for _, k := range allKinds {
		for _, valid := range []bool{true, false} {
			// Room behind the elements must stay as it is, too.
			inner := checked(t, k)
			if !valid {
				inner[0] ^= 1
			}
			whole := slices.Concat([]byte{9, 9}, inner, bytes.Repeat([]byte{9}, 64))
			want := slices.Clone(whole)
			b := whole[2 : 2+len(inner)]
			crc.Compute(k, b)
			crc.Attach(k, b)
			crc.Check(k, b)
			crc.Mask(b, 0xffff)
			if !bytes.Equal(whole, want) {
				t.Errorf("kind %d: modified: %v; want %v", k, whole, want)
			}
		}
	}
}

func TestNilAndEmptyAreEquivalent(t *testing.T) {
	for _, k := range append(slices.Clone(allKinds), noKinds...) {
		for name, call := range map[string]func(crc.Kind, []byte) ([]byte, api.Errno){"Compute": crc.Compute, "Attach": crc.Attach, "Check": crc.Check} {
			a, e := call(k, nil)
			b, f := call(k, []byte{})
			if e != f || !bytes.Equal(a, b) {
				t.Errorf("%s of kind %d: %v, %v of nil and %v, %v of no bits", name, k, a, e, b, f)
			}
		}
	}
	a, e := crc.Mask(nil, 1)
	b, f := crc.Mask([]byte{}, 1)
	if e != api.ErrShort || f != api.ErrShort || len(a) != 0 || len(b) != 0 {
		t.Errorf("Mask: %v, %v of nil and %v, %v of no bits", a, e, b, f)
	}
}

// errorOf returns the error that the chapter lists first for a call of Compute, Attach or Check.
func errorOf(k crc.Kind, b []byte, check bool) api.Errno {
	terms, ok := generators[k]
	if !ok {
		return api.ErrArg
	}
	if len(b) > 0 && slices.Max(b) > 1 {
		return api.ErrBit
	}
	if !check {
		return api.OK
	}
	end := len(b) - terms[0]
	if end < 0 {
		return api.ErrShort
	}
	if !bytes.Equal(longDivision(k, b[:end]), b[end:]) {
		return api.ErrCheck
	}
	return api.OK
}

func TestEveryErrorComesFirstAndWithoutAResult(t *testing.T) {
	arguments := append(invalidPlaces(), nil, []byte{}, []byte{1})
	for n := range 30 {
		arguments = append(arguments, make([]byte, n), bytes.Repeat([]byte{1}, n))
	}
	for _, k := range allKinds {
		whole := checked(t, k)
		arguments = append(arguments, whole, whole[1:], whole[:len(whole)-1])
	}
	expect := func(name string, k crc.Kind, b, got []byte, e, want api.Errno) {
		t.Helper()
		if e != want || (e != api.OK && len(got) != 0) {
			t.Errorf("%s(%d, %v) = %v, %v; want error %v", name, k, b, got, e, want)
		}
	}
	for _, b := range arguments {
		for _, k := range append(slices.Clone(allKinds), noKinds...) {
			got, e := crc.Compute(k, b)
			expect("Compute", k, b, got, e, errorOf(k, b, false))
			got, e = crc.Attach(k, b)
			expect("Attach", k, b, got, e, errorOf(k, b, false))
			got, e = crc.Check(k, b)
			expect("Check", k, b, got, e, errorOf(k, b, true))
		}
	}
}
