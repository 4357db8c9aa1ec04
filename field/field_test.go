package field_test

import (
	"bytes"
	"math"
	"math/rand"
	"slices"
	"strings"
	"testing"

	"userplane/api"
	"userplane/field"
)

// text returns the lowest n bits of v as digits, the most significant one first.
func text(v uint64, n int) string {
	s := make([]byte, n)
	for i := range s {
		s[i] = byte('0' + v>>(n-1-i)&1)
	}
	return string(s)
}

// textOf returns the bits of bytes as digits.
func textOf(b []byte) string {
	s := ""
	for _, x := range b {
		s += text(uint64(x), 8)
	}
	return s
}

// value returns the number that the digits of s write.
func value(s string) uint64 {
	v := uint64(0)
	for _, c := range s {
		v = v<<1 | uint64(c-'0')
	}
	return v
}

// packed returns the bytes that the digits of s fill, the last one padded with 0.
func packed(s string) []byte {
	s += strings.Repeat("0", -len(s)&7)
	b := []byte{}
	for i := 0; i < len(s); i += 8 {
		b = append(b, byte(value(s[i:i+8])))
	}
	return b
}

// expectWritten checks everything that a writer tells of itself.
func expectWritten(t *testing.T, w *field.Writer, want string) {
	t.Helper()
	if got := w.Bytes(); w.Len() != len(want) || !bytes.Equal(got, packed(want)) {
		t.Fatalf("written: %d bits, %x; want %d bits, %x", w.Len(), got, len(want), packed(want))
	}
}

// expectAt checks the position of a reader of so many bits.
func expectAt(t *testing.T, r *field.Reader, at, size int) {
	t.Helper()
	if r.At() != at || r.Left() != size-at {
		t.Fatalf("At() = %d, Left() = %d; want %d, %d", r.At(), r.Left(), at, size-at)
	}
}

func expect(t *testing.T, name string, got, want api.Errno) {
	t.Helper()
	if got != want {
		t.Fatalf("%s: error %v; want %v", name, got, want)
	}
}

func expectGet(t *testing.T, r *field.Reader, width int, want uint64, wantError api.Errno) {
	t.Helper()
	if v, e := r.Get(width); v != want || e != wantError {
		t.Fatalf("Get(%d) = %d, %v; want %d, %v", width, v, e, want, wantError)
	}
}

func expectGetBytes(t *testing.T, r *field.Reader, n int, want []byte, wantError api.Errno) {
	t.Helper()
	if b, e := r.GetBytes(n); !bytes.Equal(b, want) || e != wantError {
		t.Fatalf("GetBytes(%d) = %x, %v; want %x, %v", n, b, e, want, wantError)
	}
}

func expectGetAll(t *testing.T, r *field.Reader, widths []int, want []uint64, wantError api.Errno) {
	t.Helper()
	if l, e := r.GetAll(widths...); !slices.Equal(l, want) || e != wantError {
		t.Fatalf("GetAll(%v) = %d, %v; want %d, %v", widths, l, e, want, wantError)
	}
}

// The chapter's Examples, row by row

func TestExamples(t *testing.T) {
	var w field.Writer
	expect(t, "Put(5, 3)", w.Put(5, 3), api.OK)
	expect(t, "Put(1, 6)", w.Put(1, 6), api.OK)
	if w.Len() != 9 || !bytes.Equal(w.Bytes(), []byte{0xa0, 0x80}) {
		t.Errorf("row 1: %d bits, %x", w.Len(), w.Bytes())
	}

	expect(t, "Put(4, 2)", w.Put(4, 2), api.ErrLong)
	expect(t, "Put(0, 65)", w.Put(0, 65), api.ErrArg)
	expect(t, "Align", w.Align(), api.OK)
	expect(t, "PutBytes(FF)", w.PutBytes(0xff), api.OK)
	if !bytes.Equal(w.Bytes(), []byte{0xa0, 0x80, 0xff}) {
		t.Errorf("row 2: %x", w.Bytes())
	}

	r := field.NewReader([]byte{0xa0, 0x80})
	expectGet(t, r, 3, 5, api.OK)
	expectGet(t, r, 6, 1, api.OK)
	if r.Left() != 7 {
		t.Errorf("row 3: Left() = %d", r.Left())
	}
	expect(t, "End", r.End(), api.OK)
	expectGet(t, r, 8, 0, api.ErrShort)

	r = field.NewReader([]byte{0xa0, 0xc0})
	expectGet(t, r, 9, 321, api.OK)
	expect(t, "Align", r.Align(), api.ErrFormat)
	expect(t, "End", r.End(), api.ErrFormat)
}

// P2.1

func TestZeroWriterIsEmpty(t *testing.T) {
	var w field.Writer
	expectWritten(t, &w, "")
	expect(t, "Align", w.Align(), api.OK)
	expect(t, "PutBytes", w.PutBytes(), api.OK)
	expect(t, "PutAll", w.PutAll(), api.OK)
	expectWritten(t, &w, "")
}

func TestPut(t *testing.T) {
	for start := range 10 { // at every position in a byte
		for width := range 65 {
			for _, v := range []uint64{0, 1, 5, 0x0123456789abcdef, 0xfedcba9876543210, math.MaxUint64} {
				if width < 64 {
					v &= 1<<width - 1
				}
				var w field.Writer
				want := strings.Repeat("1", start) + text(v, width) + "1"
				for range start {
					expect(t, "Put(1, 1)", w.Put(1, 1), api.OK)
				}
				expect(t, "Put", w.Put(v, width), api.OK)
				expect(t, "Put(1, 1)", w.Put(1, 1), api.OK)
				expectWritten(t, &w, want)
			}
		}
	}
}

func TestPutErrors(t *testing.T) {
	for _, c := range []struct {
		v     uint64
		width int
		want  api.Errno
	}{
		{0, -1, api.ErrArg},
		{0, 65, api.ErrArg},
		{0, math.MinInt, api.ErrArg},
		{0, math.MaxInt, api.ErrArg},
		{1, -1, api.ErrArg}, // before ErrLong
		{math.MaxUint64, 65, api.ErrArg},
		{math.MaxUint64, 128, api.ErrArg},
		{1, 0, api.ErrLong},
		{2, 1, api.ErrLong},
		{4, 2, api.ErrLong},
		{256, 8, api.ErrLong},
		{1 << 63, 63, api.ErrLong},
		{math.MaxUint64, 0, api.ErrLong},
		{math.MaxUint64, 63, api.ErrLong},
	} {
		var w field.Writer
		w.Put(5, 3)
		if e := w.Put(c.v, c.width); e != c.want {
			t.Errorf("Put(%d, %d) = %v; want %v", c.v, c.width, e, c.want)
		}
		expectWritten(t, &w, "101")
		if e := w.PutAll(api.Field{Value: c.v, Width: c.width}); e != c.want {
			t.Errorf("PutAll(%d of width %d) = %v; want %v", c.v, c.width, e, c.want)
		}
		expectWritten(t, &w, "101")
	}
}

func TestPutBytesAtAnyPosition(t *testing.T) {
	for start := range 17 {
		for _, b := range [][]byte{nil, {}, {0xff}, {0x00}, {0x81, 0x42}, {0x12, 0x34, 0x56, 0x78, 0x9a}} {
			var w field.Writer
			w.Put(0, start)
			expect(t, "PutBytes", w.PutBytes(b...), api.OK)
			expect(t, "PutBytes", w.PutBytes(b...), api.OK)
			expect(t, "Put(1, 1)", w.Put(1, 1), api.OK)
			expectWritten(t, &w, strings.Repeat("0", start)+textOf(b)+textOf(b)+"1")
		}
	}
}

func TestPutAll(t *testing.T) {
	var w field.Writer
	expect(t, "PutAll", w.PutAll(
		api.Field{Value: 5, Width: 3},
		api.Field{Value: 0, Width: 0},
		api.Field{Value: 1, Width: 6},
		api.Field{Value: math.MaxUint64, Width: 64},
		api.Field{Value: 2, Width: 2},
	), api.OK)
	want := "101000001" + strings.Repeat("1", 64) + "10"
	expectWritten(t, &w, want)
	expect(t, "PutAll", w.PutAll(api.Field{Value: 1, Width: 4}), api.OK)
	expectWritten(t, &w, want+"0001")
}

func TestPutAllAppendsNothingAfterAnError(t *testing.T) {
	good, long, wide := api.Field{Value: 5, Width: 3}, api.Field{Value: 4, Width: 2}, api.Field{Value: 0, Width: 65}
	for _, c := range []struct {
		l    []api.Field
		want api.Errno
	}{
		{[]api.Field{long}, api.ErrLong},
		{[]api.Field{wide}, api.ErrArg},
		{[]api.Field{good, good, long}, api.ErrLong},
		{[]api.Field{good, good, wide}, api.ErrArg},
		{[]api.Field{wide, good}, api.ErrArg},
		{[]api.Field{good, long, good}, api.ErrLong},
		{[]api.Field{long, wide}, api.ErrLong}, // the first one in the order of the fields
		{[]api.Field{wide, long}, api.ErrArg},
		{[]api.Field{good, long, good, wide}, api.ErrLong},
		{[]api.Field{good, {Value: 9, Width: -1}, long}, api.ErrArg},
	} {
		for start := range 9 {
			var w field.Writer
			w.Put(0, start)
			if e := w.PutAll(c.l...); e != c.want {
				t.Errorf("PutAll(%v) = %v; want %v", c.l, e, c.want)
			}
			expectWritten(t, &w, strings.Repeat("0", start))
			w.Put(1, 1)
			expectWritten(t, &w, strings.Repeat("0", start)+"1")
		}
	}
}

func TestWriterAlign(t *testing.T) {
	for start := range 18 {
		var w field.Writer
		want := strings.Repeat("1", start)
		for range start {
			w.Put(1, 1)
		}
		want += strings.Repeat("0", -start&7)
		for range 2 { // the second one changes nothing
			expect(t, "Align", w.Align(), api.OK)
			expectWritten(t, &w, want)
		}
		w.Put(3, 2)
		expectWritten(t, &w, want+"11")
	}
}

func TestNilWriter(t *testing.T) {
	var w *field.Writer
	expect(t, "Put", w.Put(0, 1), api.ErrNil)
	expect(t, "Put", w.Put(0, 65), api.ErrNil) // before ErrArg
	expect(t, "Put", w.Put(4, 2), api.ErrNil)  // before ErrLong
	expect(t, "PutBytes", w.PutBytes(), api.ErrNil)
	expect(t, "PutBytes", w.PutBytes(1, 2), api.ErrNil)
	expect(t, "PutAll", w.PutAll(), api.ErrNil)
	expect(t, "PutAll", w.PutAll(api.Field{Value: 4, Width: 2}), api.ErrNil)
	expect(t, "PutAll", w.PutAll(api.Field{Width: -1}), api.ErrNil)
	expect(t, "Align", w.Align(), api.ErrNil)
	if w.Len() != 0 || len(w.Bytes()) != 0 {
		t.Errorf("Len() = %d, Bytes() = %x", w.Len(), w.Bytes())
	}
}

// P2.2

func TestGet(t *testing.T) {
	b := []byte{0x12, 0x34, 0x56, 0x78, 0x9a, 0xbc, 0xde, 0xf0, 0x0f, 0xed, 0xcb}
	all := textOf(b)
	for start := range 25 {
		for width := range 65 {
			r := field.NewReader(b)
			expectGet(t, r, start, value(all[:start]), api.OK)
			expectGet(t, r, width, value(all[start:start+width]), api.OK)
			expectAt(t, r, start+width, len(all))
		}
	}
}

func TestGetOfAllBits(t *testing.T) {
	r := field.NewReader(bytes.Repeat([]byte{0xff}, 8))
	expectGet(t, r, 64, math.MaxUint64, api.OK)
	expectAt(t, r, 64, 64)
	expectGet(t, r, 0, 0, api.OK)
	expectGet(t, r, 1, 0, api.ErrShort)
	expectAt(t, r, 64, 64)
}

func TestGetErrors(t *testing.T) {
	for _, c := range []struct {
		width int
		want  api.Errno
	}{
		{-1, api.ErrArg},
		{65, api.ErrArg}, // before ErrShort
		{math.MinInt, api.ErrArg},
		{math.MaxInt, api.ErrArg},
		{14, api.ErrShort},
		{16, api.ErrShort},
		{64, api.ErrShort},
	} {
		r := field.NewReader([]byte{0xff, 0xff})
		expectGet(t, r, 3, 7, api.OK)
		expectGet(t, r, c.width, 0, c.want)
		expectAt(t, r, 3, 16)
		expectGetAll(t, r, []int{c.width}, nil, c.want)
		expectAt(t, r, 3, 16)
		expectGet(t, r, 13, 1<<13-1, api.OK)
	}
}

func TestGetBytesAtAnyPosition(t *testing.T) {
	b := []byte{0x81, 0x42, 0x24, 0x18, 0xff, 0x00, 0xa5}
	all := textOf(b)
	for start := range len(all) + 1 {
		for n := range 9 {
			r := field.NewReader(b)
			expectGet(t, r, start, value(all[:start]), api.OK)
			if start+8*n > len(all) {
				expectGetBytes(t, r, n, nil, api.ErrShort)
				expectAt(t, r, start, len(all))
				continue
			}
			expectGetBytes(t, r, n, packed(all[start:start+8*n]), api.OK)
			expectAt(t, r, start+8*n, len(all))
		}
	}
}

func TestGetBytesErrors(t *testing.T) {
	for _, c := range []struct {
		n    int
		want api.Errno
	}{
		{-1, api.ErrArg},
		{math.MinInt, api.ErrArg},
		{2, api.ErrShort},
		{3, api.ErrShort},
		{1 << 61, api.ErrShort}, // 8 times as many are 0 modulo 2^64
		{math.MaxInt/8 + 1, api.ErrShort},
		{math.MaxInt, api.ErrShort},
	} {
		r := field.NewReader([]byte{0xff, 0x12})
		expectGet(t, r, 1, 1, api.OK)
		expectGetBytes(t, r, c.n, nil, c.want)
		expectAt(t, r, 1, 16)
		expectGetBytes(t, r, 1, []byte{0xfe}, api.OK)
	}
}

func TestGetAll(t *testing.T) {
	r := field.NewReader([]byte{0xa0, 0x80, 0xff, 0x01})
	expectGetAll(t, r, nil, nil, api.OK)
	expectAt(t, r, 0, 32)
	expectGetAll(t, r, []int{3, 0, 6}, []uint64{5, 0, 1}, api.OK)
	expectAt(t, r, 9, 32)
	expectGetAll(t, r, []int{7, 16}, []uint64{0, 0xff01}, api.OK)
	expectAt(t, r, 32, 32)
	expectGetAll(t, r, []int{0, 0}, []uint64{0, 0}, api.OK)
}

func TestGetAllReturnsToWhereItWas(t *testing.T) {
	for _, c := range []struct {
		widths []int
		want   api.Errno
	}{
		{[]int{-1}, api.ErrArg},
		{[]int{65}, api.ErrArg},
		{[]int{20}, api.ErrShort},
		{[]int{4, 4, 65}, api.ErrArg},
		{[]int{4, 4, 20}, api.ErrShort},
		{[]int{19, 1}, api.ErrShort},
		{[]int{20, 65}, api.ErrShort}, // the first one in the order of the fields
		{[]int{65, 20}, api.ErrArg},
		{[]int{4, 64, -1}, api.ErrShort},
		{[]int{4, -1, 64}, api.ErrArg},
	} {
		r := field.NewReader([]byte{0xff, 0xff, 0xff})
		expectGet(t, r, 5, 31, api.OK)
		expectGetAll(t, r, c.widths, nil, c.want)
		expectAt(t, r, 5, 24)
		expectGet(t, r, 19, 1<<19-1, api.OK)
	}
}

func TestReaderAlign(t *testing.T) {
	for at := range 17 {
		next := (at + 7) / 8 * 8
		for one := range 17 { // the only bit 1, or none
			s := []byte(strings.Repeat("0", 16))
			if one < 16 {
				s[one] = '1'
			}
			r := field.NewReader(packed(string(s)))
			expectGet(t, r, at, value(string(s[:at])), api.OK)
			if one >= at && one < next {
				expect(t, "Align", r.Align(), api.ErrFormat)
				expectAt(t, r, at, 16)
				expect(t, "Align", r.Align(), api.ErrFormat)
				continue
			}
			for range 2 { // the second one changes nothing
				expect(t, "Align", r.Align(), api.OK)
				expectAt(t, r, next, 16)
			}
		}
	}
}

func TestEnd(t *testing.T) {
	for _, size := range []int{1, 2, 3} {
		for at := range 8*size + 1 {
			for one := range 8*size + 1 { // the only bit 1, or none
				s := []byte(strings.Repeat("0", 8*size+1))
				s[one] = '1'
				s = s[:8*size]
				r := field.NewReader(packed(string(s)))
				expectGet(t, r, at, value(string(s[:at])), api.OK)
				want := api.OK
				if 8*size-at >= 8 || one < 8*size && one >= at {
					want = api.ErrFormat
				}
				expect(t, "End", r.End(), want)
				expectAt(t, r, at, 8*size) // End reads nothing
			}
		}
	}
}

func TestZeroReaderReadsAnEmptySlice(t *testing.T) {
	for _, r := range []*field.Reader{{}, new(field.Reader), field.NewReader(nil), field.NewReader([]byte{})} {
		expectAt(t, r, 0, 0)
		expectGet(t, r, 0, 0, api.OK)
		expectGet(t, r, 1, 0, api.ErrShort)
		expectGet(t, r, 65, 0, api.ErrArg)
		expectGetBytes(t, r, 0, nil, api.OK)
		expectGetBytes(t, r, 1, nil, api.ErrShort)
		expectGetBytes(t, r, -1, nil, api.ErrArg)
		expectGetAll(t, r, nil, nil, api.OK)
		expectGetAll(t, r, []int{0, 0}, []uint64{0, 0}, api.OK)
		expectGetAll(t, r, []int{0, 1}, nil, api.ErrShort)
		expect(t, "Align", r.Align(), api.OK)
		expect(t, "End", r.End(), api.OK)
		expectAt(t, r, 0, 0)
	}
}

func TestNilReader(t *testing.T) {
	var r *field.Reader
	for _, n := range []int{math.MinInt, -1, 0, 1, 65, math.MaxInt} {
		expectGet(t, r, n, 0, api.ErrNil)
		expectGetBytes(t, r, n, nil, api.ErrNil)
		expectGetAll(t, r, []int{n}, nil, api.ErrNil)
	}
	expectGetAll(t, r, nil, nil, api.ErrNil)
	expect(t, "Align", r.Align(), api.ErrNil)
	expect(t, "End", r.End(), api.ErrNil)
	if r.At() != 0 || r.Left() != 0 {
		t.Errorf("At() = %d, Left() = %d", r.At(), r.Left())
	}
}

// P2.3

// step is a call that writes, and the calls that read the same back.
type step struct {
	fields []api.Field
	bytes  []byte
	align  bool
}

func randomSteps(random *rand.Rand) []step {
	var steps []step
	for range random.Intn(12) {
		s := step{}
		switch random.Intn(5) {
		case 0:
			s.align = true
		case 1, 2:
			s.bytes = make([]byte, 1+random.Intn(20))
			random.Read(s.bytes)
		default:
			for range 1 + random.Intn(5) {
				width := random.Intn(65)
				s.fields = append(s.fields, api.Field{Value: random.Uint64() >> (64 - width), Width: width})
			}
		}
		steps = append(steps, s)
	}
	return steps
}

// write performs the steps and returns the bits that they must write.
func write(t *testing.T, w *field.Writer, steps []step) string {
	want := ""
	for _, s := range steps {
		if s.align {
			expect(t, "Align", w.Align(), api.OK)
			want += strings.Repeat("0", -len(want)&7)
		}
		expect(t, "PutBytes", w.PutBytes(s.bytes...), api.OK)
		want += textOf(s.bytes)
		expect(t, "PutAll", w.PutAll(s.fields...), api.OK)
		for _, f := range s.fields {
			want += text(f.Value, f.Width)
		}
	}
	return want
}

// read reads the steps back up to the first error, which it returns with the position before it.
func read(t *testing.T, r *field.Reader, steps []step) (api.Errno, int) {
	for _, s := range steps {
		at := r.At()
		if s.align {
			expect(t, "Align", r.Align(), api.OK)
			continue
		}
		b, e := r.GetBytes(len(s.bytes))
		if e != api.OK {
			return e, at
		}
		if !bytes.Equal(b, s.bytes) {
			t.Fatalf("GetBytes = %x; want %x", b, s.bytes)
		}
		var widths []int
		for _, f := range s.fields {
			widths = append(widths, f.Width)
		}
		l, e := r.GetAll(widths...)
		if e != api.OK {
			return e, at
		}
		for i, f := range s.fields {
			if l[i] != f.Value {
				t.Fatalf("GetAll(%v) = %v; want %v", widths, l, s.fields)
			}
		}
	}
	return api.OK, r.At()
}

func TestReadBackWhatWasWritten(t *testing.T) {
	random := rand.New(rand.NewSource(1))
	for range 2000 {
		steps := randomSteps(random)
		var w, same field.Writer
		want := write(t, &w, steps)
		expectWritten(t, &w, want)
		expectWritten(t, &same, "")
		write(t, &same, steps)
		expectWritten(t, &same, want)

		r := field.NewReader(w.Bytes())
		e, at := read(t, r, steps)
		expect(t, "read", e, api.OK)
		if at != w.Len() {
			t.Fatalf("read %d of %d bits", at, w.Len())
		}
		expect(t, "End", r.End(), api.OK)
	}
}

func TestTruncatedAnywhere(t *testing.T) {
	random := rand.New(rand.NewSource(2))
	for range 300 {
		steps := randomSteps(random)
		var w field.Writer
		write(t, &w, steps)
		for n := range len(w.Bytes()) {
			r := field.NewReader(w.Bytes()[:n])
			e, at := read(t, r, steps)
			expect(t, "read", e, api.ErrShort)
			expectAt(t, r, at, 8*n)
		}
	}
}

func TestWritersDoNotDisturbEachOther(t *testing.T) {
	var a, b field.Writer
	for i := range 100 {
		a.Put(uint64(i), 7)
		b.Put(uint64(i)&7, 3)
		b.PutBytes(byte(i))
	}
	wantA, wantB := "", ""
	for i := range 100 {
		wantA += text(uint64(i), 7)
		wantB += text(uint64(i), 3) + text(uint64(i), 8)
	}
	expectWritten(t, &a, wantA)
	expectWritten(t, &b, wantB)
}

// P1 and the document's section Rules

// overwrite changes b and the room behind its elements.
func overwrite(b []byte) {
	for i := range b[:cap(b)] {
		b[:cap(b)][i] ^= 0xff
	}
}

func TestBytesShareNoMemoryWithTheWriter(t *testing.T) {
	var w field.Writer
	want := ""
	for i := range 40 {
		w.Put(uint64(i%8), 3)
		want += text(uint64(i), 3)
		first := w.Bytes()
		kept := slices.Clone(first)
		second := w.Bytes()
		overwrite(first)
		expectWritten(t, &w, want)
		if !bytes.Equal(second, kept) {
			t.Fatalf("two results share memory: %x; want %x", second, kept)
		}
		w.Put(7, 3)
		want += "111"
		if !bytes.Equal(second, kept) {
			t.Fatalf("writing changed a result: %x; want %x", second, kept)
		}
	}
}

func TestPutBytesNeitherKeepsNorModifiesItsArgument(t *testing.T) {
	for start := range 9 {
		whole := []byte{1, 2, 3, 4, 5, 6}
		var w field.Writer
		w.Put(0, start)
		want := strings.Repeat("0", start) + textOf(whole[1:3])
		expect(t, "PutBytes", w.PutBytes(whole[1:3]...), api.OK)
		w.Put(1, 1)
		w.PutBytes(9)
		want += "1" + text(9, 8)
		if !bytes.Equal(whole, []byte{1, 2, 3, 4, 5, 6}) {
			t.Fatalf("modified: %v", whole)
		}
		overwrite(whole)
		expectWritten(t, &w, want)
	}
}

func TestPutAllAndGetAllDoNotModifyTheirArguments(t *testing.T) {
	l := []api.Field{{Value: 5, Width: 3}, {Value: 1, Width: 6}, {Value: 9, Width: 1}}
	before := slices.Clone(l)
	var w field.Writer
	w.PutAll(l...)
	w.PutAll(l[:2]...)
	if !slices.Equal(l, before) {
		t.Errorf("modified: %v", l)
	}
	l[0].Value, l[1].Width = 0, 0
	expectWritten(t, &w, "101000001")
	widths := []int{3, 6, 65, 100}
	r := field.NewReader(w.Bytes())
	r.GetAll(widths...)
	r.GetAll(widths[:2]...)
	if !slices.Equal(widths, []int{3, 6, 65, 100}) {
		t.Errorf("modified: %v", widths)
	}
}

func TestReaderReadsACopy(t *testing.T) {
	b := []byte{0xa0, 0x80, 0x12}
	r := field.NewReader(b[:2])
	other := field.NewReader(b[:2])
	overwrite(b)
	expectGet(t, r, 9, 321, api.OK)
	b[1] = 0xff
	expect(t, "End", r.End(), api.OK)
	expectAt(t, other, 0, 16)
	expectGetBytes(t, other, 2, []byte{0xa0, 0x80}, api.OK)
}

func TestReadBytesShareNoMemoryWithTheReader(t *testing.T) {
	b := []byte{0x12, 0x34, 0x56, 0x78, 0x9a}
	for start := range 9 {
		r := field.NewReader(b)
		twin := *r
		r.Get(start)
		twin.Get(start)
		first, e := r.GetBytes(2)
		expect(t, "GetBytes", e, api.OK)
		second, _ := twin.GetBytes(2)
		overwrite(first)
		all := textOf(b)
		if want := packed(all[start : start+16]); !bytes.Equal(second, want) {
			t.Fatalf("two results share memory: %x; want %x", second, want)
		}
		expectGet(t, r, 8, value(all[start+16:start+24]), api.OK)
		if !bytes.Equal(b, []byte{0x12, 0x34, 0x56, 0x78, 0x9a}) {
			t.Fatalf("the argument changed: %x", b)
		}
	}
}

func TestReadListsShareNoMemory(t *testing.T) {
	r := field.NewReader([]byte{0x12, 0x34})
	widths := []int{4, 4}
	first, _ := r.GetAll(widths...)
	second, _ := r.GetAll(widths...)
	first[0], first[1] = 99, 99
	if !slices.Equal(second, []uint64{3, 4}) || !slices.Equal(widths, []int{4, 4}) {
		t.Errorf("shared: %v %v", second, widths)
	}
}

// errorOf returns the error of reading n units of so many bits.
func errorOf(n, most, size, left int) api.Errno {
	switch {
	case n < 0 || n > most:
		return api.ErrArg
	case n > left/size:
		return api.ErrShort
	}
	return api.OK
}

func TestEveryErrorComesWithZeroResults(t *testing.T) {
	numbers := []int{math.MinInt, -65, -1, 0, 1, 7, 8, 9, 63, 64, 65, 72, 1 << 61, math.MaxInt}
	for size := range 11 {
		for start := range min(8*size, 17) + 1 {
			for _, n := range numbers {
				r := field.NewReader(bytes.Repeat([]byte{0xff}, size))
				expectGet(t, r, start, 1<<start-1, api.OK)
				left := 8*size - start
				if e := errorOf(n, 64, 1, left); e != api.OK {
					expectGet(t, r, n, 0, e)
					expectAt(t, r, start, 8*size)
					expectGetAll(t, r, []int{0, n, 1}, nil, e)
					expectAt(t, r, start, 8*size)
				}
				if e := errorOf(n, math.MaxInt, 8, left); e != api.OK {
					expectGetBytes(t, r, n, nil, e)
					expectAt(t, r, start, 8*size)
				}
			}
		}
	}
}
