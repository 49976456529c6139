// Package strand is layer 1: bits in a row, and numbers that are tied into them.
package strand

import (
	"math"
	"math/bits"

	"fretwork/api"
)

// Right tells whether s is a strand.
func Right(s api.Strand) bool {
	if s.Len < 0 || s.Len > api.MaxBits || len(s.Bits) != size(s.Len) {
		return false
	}
	rest := s.Len % 8
	return rest == 0 || s.Bits[len(s.Bits)-1]<<rest == 0
}

// Join answers a's bits, and b's behind them.
func Join(a, b api.Strand) (api.Strand, api.Errno) {
	if !Right(a) || !Right(b) {
		return api.Strand{}, api.ErrBits
	}
	if a.Len+b.Len > api.MaxBits {
		return api.Strand{}, api.ErrLong
	}
	r := grown(a, b.Len)
	copyBits(r, a.Len, b, 0, b.Len)
	return r, api.OK
}

// Cut answers the bits of s from the place from on, ahead of to.
func Cut(s api.Strand, from, to int) (api.Strand, api.Errno) {
	if !Right(s) {
		return api.Strand{}, api.ErrBits
	}
	if from < 0 || to < from || s.Len < to {
		return api.Strand{}, api.ErrArg
	}
	r := grown(api.Strand{}, to-from)
	copyBits(r, 0, s, from, to-from)
	return r, api.OK
}

// Field answers s, and the field of w bits that says n behind it.
func Field(s api.Strand, n uint64, w int) (api.Strand, api.Errno) {
	if !Right(s) {
		return api.Strand{}, api.ErrBits
	}
	if w < 0 || w > 64 || n>>w != 0 {
		return api.Strand{}, api.ErrArg
	}
	return withDigits(s, n, w)
}

// GetField answers what the field of w bits at a place says, and the place behind it.
func GetField(s api.Strand, at, w int) (uint64, int, api.Errno) {
	if !Right(s) {
		return 0, 0, api.ErrBits
	}
	if w < 0 || w > 64 || at < 0 || s.Len < at {
		return 0, 0, api.ErrArg
	}
	if s.Len-at < w {
		return 0, 0, api.ErrShort
	}
	return digits(s, at, w), at + w, api.OK
}

// Knot answers s, and the knot that says n behind it.
func Knot(s api.Strand, n uint64) (api.Strand, api.Errno) {
	if !Right(s) {
		return api.Strand{}, api.ErrBits
	}
	if n == math.MaxUint64 {
		return api.Strand{}, api.ErrArg
	}
	// The k noughts of a knot are digits of n + 1, too, if it is told with 2k + 1 of them.
	return withDigits(s, n+1, 2*bits.Len64(n+1)-1)
}

// GetKnot answers what the knot at a place says, and the place behind it.
func GetKnot(s api.Strand, at int) (uint64, int, api.Errno) {
	if !Right(s) {
		return 0, 0, api.ErrBits
	}
	if at < 0 || s.Len < at {
		return 0, 0, api.ErrArg
	}
	k := noughts(s, at)
	if k == 64 {
		return 0, 0, api.ErrKnot
	}
	if s.Len-at < 2*k+1 {
		return 0, 0, api.ErrShort
	}
	return digits(s, at+k, k+1) - 1, at + 2*k + 1, api.OK
}

// Pack answers the bytes of s: its bits, a one behind them, and noughts.
func Pack(s api.Strand) ([]byte, api.Errno) {
	if !Right(s) {
		return nil, api.ErrBits
	}
	r := grown(s, 1)
	set(r, s.Len)
	return r.Bits, api.OK
}

// Unpack answers the strand that has these bytes.
func Unpack(b []byte) (api.Strand, api.Errno) {
	if len(b) > api.MaxBits/8+1 {
		return api.Strand{}, api.ErrLong
	}
	if len(b) == 0 || b[len(b)-1] == 0 {
		return api.Strand{}, api.ErrPack
	}
	n := 8*len(b) - bits.TrailingZeros8(b[len(b)-1]) - 1
	if n > api.MaxBits {
		return api.Strand{}, api.ErrPack
	}
	s := api.Strand{Bits: make([]byte, size(n)), Len: n}
	copy(s.Bits, b)
	if n%8 != 0 {
		s.Bits[n/8] &^= 1 << (7 - n%8)
	}
	return s, api.OK
}

// size is how many bytes n bits take.
func size(n int) int {
	return (n + 7) / 8
}

// bit is the bit of s at a place.
func bit(s api.Strand, at int) byte {
	return s.Bits[at/8] >> (7 - at%8) & 1
}

// set makes the bit of s at a place a one.
func set(s api.Strand, at int) {
	s.Bits[at/8] |= 1 << (7 - at%8)
}

// grown is s in memory of its own, with w noughts behind it; more than MaxBits in all are the caller's affair.
func grown(s api.Strand, w int) api.Strand {
	r := api.Strand{Bits: make([]byte, size(s.Len+w)), Len: s.Len + w}
	copy(r.Bits, s.Bits)
	return r
}

// copyBits lays n bits of s, from a place on, into noughts of r.
func copyBits(r api.Strand, to int, s api.Strand, from, n int) {
	for i := range n {
		if bit(s, from+i) == 1 {
			set(r, to+i)
		}
	}
}

// withDigits is s with w binary digits of n behind it; there may be more of them than a uint64 has.
func withDigits(s api.Strand, n uint64, w int) (api.Strand, api.Errno) {
	if s.Len+w > api.MaxBits {
		return api.Strand{}, api.ErrLong
	}
	r := grown(s, w)
	for i := range w {
		if n>>(w-1-i)&1 == 1 {
			set(r, s.Len+i)
		}
	}
	return r, api.OK
}

// digits is the number that w binary digits from a place on say.
func digits(s api.Strand, at, w int) uint64 {
	var n uint64
	for i := range w {
		n = n<<1 | uint64(bit(s, at+i))
	}
	return n
}

// noughts is how many noughts stand from a place on, but no more than 64.
func noughts(s api.Strand, at int) int {
	for i := range min(64, s.Len-at) {
		if bit(s, at+i) == 1 {
			return i
		}
	}
	return min(64, s.Len-at)
}
