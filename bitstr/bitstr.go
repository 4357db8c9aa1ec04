// Package bitstr implements layer 1: see shared/doc/01-bitstr.md.
package bitstr

import (
	"iter"
	"slices"

	"userplane/api"
)

// Valid reports whether b is a valid bit slice.
func Valid(b []byte) bool { return valid(b) }

// Pack returns the packed bytes of b.
func Pack(b []byte) ([]byte, api.Errno) {
	if !valid(b) {
		return nil, api.ErrBit
	}
	p := make([]byte, 0, (len(b)+7)/8)
	for start := 0; start < len(b); start += 8 {
		end := min(start+8, len(b))
		unused := 8 - (end - start)
		p = append(p, byte(number(b[start:end:end])<<unused))
	}
	return p, api.OK
}

// Unpack returns the first n bits of packed bytes.
func Unpack(p []byte, n int) ([]byte, api.Errno) {
	var e api.Errno
	if n < 0 {
		e = api.ErrArg
		goto fail
	}
	// In 64 bits, because 8*len(p) may exceed an int of 32 bits.
	if uint64(n) > 8*uint64(len(p)) {
		e = api.ErrShort
		goto fail
	}
	return lowBits(n, func(i int) byte { return p[i/8] >> (7 - i%8) }), api.OK
fail:
	return nil, e
}

// FromUint returns the bit slice of n elements with value v.
func FromUint(v uint64, n int) ([]byte, api.Errno) {
	var e api.Errno
	if n < 0 || n > 64 {
		e = api.ErrArg
		goto fail
	}
	if v>>n != 0 {
		e = api.ErrLong
		goto fail
	}
	return lowBits(n, func(i int) uint64 { return v >> (n - 1 - i) }), api.OK
fail:
	return nil, e
}

// Uint returns the value of b.
func Uint(b []byte) (uint64, api.Errno) {
	var e api.Errno
	if !valid(b) {
		e = api.ErrBit
		goto fail
	}
	if len(b) > 64 {
		e = api.ErrLong
		goto fail
	}
	return number(b), api.OK
fail:
	return 0, e
}

// Xor returns the elementwise exclusive or.
func Xor(a, b []byte) ([]byte, api.Errno) {
	var e api.Errno
	if len(a) != len(b) {
		e = api.ErrArg
		goto fail
	}
	if !valid(a, b) {
		e = api.ErrBit
		goto fail
	}
	return lowBits(len(a), func(i int) byte { return a[i] ^ b[i] }), api.OK
fail:
	return nil, e
}

// Weight returns the number of ones.
func Weight(b []byte) int {
	ones := 0
	for length, element := range runs(b) {
		if element == 1 {
			ones += length
		}
	}
	return ones
}

// Distance returns the number of differing elements.
func Distance(a, b []byte) (int, api.Errno) {
	difference, e := Xor(a, b)
	return Weight(difference), e
}

// Concat returns the concatenation of its arguments.
func Concat(parts ...[]byte) ([]byte, api.Errno) {
	if !valid(parts...) {
		return nil, api.ErrBit
	}
	return slices.Concat(parts...), api.OK
}

// Runs returns an iterator over the runs of b.
func Runs(b []byte) iter.Seq2[int, byte] {
	// The caller may change b before or during the iteration.
	return runs(slices.Clone(b))
}

// runs iterates over the runs of b itself.
func runs(b []byte) iter.Seq2[int, byte] {
	return func(yield func(int, byte) bool) {
		for start := 0; start < len(b); {
			end := start + 1
			for end < len(b) && b[end] == b[start] {
				end++
			}
			if !yield(end-start, b[start]) {
				return
			}
			start = end
		}
	}
}

// valid reports whether all of the slices are valid.
func valid(parts ...[]byte) bool {
	ok := true
search:
	for _, part := range parts {
		for _, element := range runs(part) {
			if element > 1 {
				ok = false
				break search
			}
		}
	}
	return ok
}

// number returns the value of a valid b of at most 64 elements.
func number(b []byte) uint64 {
	v := uint64(0)
	for _, x := range b {
		v = v<<1 | uint64(x)
	}
	return v
}

// lowBits returns n bits, each of them the lowest one of the word for its index.
func lowBits[W byte | uint64](n int, word func(i int) W) []byte {
	b := make([]byte, n)
	for i := range b {
		b[i] = byte(word(i) & 1)
	}
	return b
}
