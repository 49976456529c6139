package strand_test

import (
	"bytes"
	"math"
	"strings"
	"testing"

	"fretwork/api"
	"fretwork/samples"
	"fretwork/strand"
)

// tied is the strand of a text of noughts and ones.
func tied(text string) api.Strand {
	s := api.Strand{Bits: make([]byte, (len(text)+7)/8), Len: len(text)}
	for i := range len(text) {
		s.Bits[i/8] |= (text[i] - '0') << (7 - i%8)
	}
	return s
}

// told is the text of a strand.
func told(s api.Strand) string {
	var b strings.Builder
	for i := range s.Len {
		b.WriteByte('0' + s.Bits[i/8]>>(7-i%8)&1)
	}
	return b.String()
}

// wrongs are some that are no strands.
func wrongs() []api.Strand {
	return []api.Strand{
		{Len: -1}, {Len: 1}, {Bits: []byte{0}}, {Bits: []byte{1}, Len: 7}, {Bits: []byte{255, 64}, Len: 9},
		{Bits: []byte{0, 0}, Len: 8}, {Bits: make([]byte, api.MaxBits/8+1), Len: api.MaxBits + 1}, {Len: math.MinInt}, {Len: math.MaxInt},
	}
}

// full is a strand of as many bits as there may be.
func full() api.Strand {
	return api.Strand{Bits: bytes.Repeat([]byte{0xa5}, api.MaxBits/8), Len: api.MaxBits}
}

func zero(s api.Strand) bool { return s.Bits == nil && s.Len == 0 }

func TestRight(t *testing.T) {
	for _, s := range wrongs() {
		if strand.Right(s) {
			t.Error("right:", len(s.Bits), s.Len)
		}
	}
	for _, s := range []api.Strand{{}, {Bits: []byte{}}, tied("1"), tied("11111111"), tied("101010101"), full()} {
		if !strand.Right(s) {
			t.Error("wrong:", len(s.Bits), s.Len)
		}
	}
}

func TestWrongStrands(t *testing.T) {
	for _, s := range wrongs() {
		a, e1 := strand.Join(s, api.Strand{})
		b, e2 := strand.Join(full(), s)
		c, e3 := strand.Cut(s, 5, 4)
		d, e4 := strand.Field(s, 1, 99)
		n, at, e5 := strand.GetField(s, -1, 99)
		e, e6 := strand.Knot(s, math.MaxUint64)
		m, to, e7 := strand.GetKnot(s, -1)
		p, e8 := strand.Pack(s)
		for i, x := range []api.Errno{e1, e2, e3, e4, e5, e6, e7, e8} {
			if x != api.ErrBits {
				t.Error(s.Len, i, x)
			}
		}
		if !zero(a) || !zero(b) || !zero(c) || !zero(d) || !zero(e) || p != nil || n != 0 || at != 0 || m != 0 || to != 0 {
			t.Error(s.Len, "something beside an error")
		}
	}
}

func TestJoinCut(t *testing.T) {
	a, b := tied("1011001"), tied("01011100110")
	if s, e := strand.Join(a, b); e != api.OK || told(s) != "101100101011100110" {
		t.Error(told(s), e)
	}
	whole, _ := strand.Join(a, b)
	for from := range whole.Len + 1 {
		for to := from; to <= whole.Len; to++ {
			s, e := strand.Cut(whole, from, to)
			if e != api.OK || told(s) != told(whole)[from:to] || !strand.Right(s) {
				t.Error(from, to, told(s), e)
			}
			ahead, _ := strand.Cut(whole, 0, from)
			rest, _ := strand.Cut(whole, from, whole.Len)
			if again, e := strand.Join(ahead, rest); e != api.OK || told(again) != told(whole) {
				t.Error(from, told(again), e)
			}
		}
	}
	for _, x := range [][2]int{{-1, 2}, {3, 2}, {0, 19}, {19, 19}, {-2, -1}, {math.MinInt, math.MaxInt}} {
		if s, e := strand.Cut(whole, x[0], x[1]); e != api.ErrArg || !zero(s) {
			t.Error(x, s, e)
		}
	}
	if s, e := strand.Join(full(), tied("1")); e != api.ErrLong || !zero(s) {
		t.Error(s.Len, e)
	}
	if s, e := strand.Join(full(), api.Strand{}); e != api.OK || s.Len != api.MaxBits {
		t.Error(s.Len, e)
	}
}

func TestField(t *testing.T) {
	if s, e := strand.Field(tied("11"), 5, 4); e != api.OK || told(s) != "110101" {
		t.Error(told(s), e)
	}
	if s, e := strand.Field(tied("1"), 0, 0); e != api.OK || told(s) != "1" {
		t.Error(told(s), e)
	}
	if s, e := strand.Field(api.Strand{}, math.MaxUint64, 64); e != api.OK || told(s) != strings.Repeat("1", 64) {
		t.Error(told(s), e)
	}
	for _, x := range []struct {
		n uint64
		w int
	}{{1, 0}, {2, 1}, {16, 4}, {1 << 63, 63}, {0, 65}, {0, -1}, {0, math.MinInt}, {0, math.MaxInt}} {
		if s, e := strand.Field(full(), x.n, x.w); e != api.ErrArg || !zero(s) {
			t.Error(x, e)
		}
	}
	if s, e := strand.Field(full(), 0, 1); e != api.ErrLong || !zero(s) {
		t.Error(e)
	}
	if s, e := strand.Field(full(), 0, 0); e != api.OK || s.Len != api.MaxBits {
		t.Error(e)
	}
}

func TestGetField(t *testing.T) {
	s := tied("1101011")
	if n, at, e := strand.GetField(s, 1, 4); e != api.OK || n != 10 || at != 5 {
		t.Error(n, at, e)
	}
	if n, at, e := strand.GetField(s, 7, 0); e != api.OK || n != 0 || at != 7 {
		t.Error(n, at, e)
	}
	for _, x := range [][2]int{{-1, 0}, {8, 0}, {0, -1}, {0, 65}, {8, 65}, {math.MaxInt, 64}} {
		if n, at, e := strand.GetField(s, x[0], x[1]); e != api.ErrArg || n != 0 || at != 0 {
			t.Error(x, n, at, e)
		}
	}
	for _, x := range [][2]int{{0, 8}, {7, 1}, {4, 4}, {0, 64}} {
		if n, at, e := strand.GetField(s, x[0], x[1]); e != api.ErrShort || n != 0 || at != 0 {
			t.Error(x, n, at, e)
		}
	}
}

func TestKnot(t *testing.T) {
	for n, want := range map[uint64]string{0: "1", 1: "010", 2: "011", 4: "00101", math.MaxUint64 - 1: strings.Repeat("0", 63) + strings.Repeat("1", 64)} {
		s, e := strand.Knot(tied("10"), n)
		if e != api.OK || told(s) != "10"+want {
			t.Error(n, told(s), e)
		}
		if m, at, e := strand.GetKnot(s, 2); e != api.OK || m != n || at != s.Len {
			t.Error(n, m, at, e)
		}
		for i := range len(want) {
			cut, _ := strand.Cut(s, 0, 2+i)
			if m, at, e := strand.GetKnot(cut, 2); e != api.ErrShort || m != 0 || at != 0 {
				t.Error(n, i, m, at, e)
			}
		}
	}
	if s, e := strand.Knot(full(), math.MaxUint64); e != api.ErrArg || !zero(s) {
		t.Error(e)
	}
	if s, e := strand.Knot(full(), 0); e != api.ErrLong || !zero(s) {
		t.Error(e)
	}
}

func TestGetKnot(t *testing.T) {
	s := tied("00101")
	for _, x := range [][3]int{{0, 4, 5}, {1, 1, 4}, {2, 0, 3}, {4, 0, 5}} {
		if n, at, e := strand.GetKnot(s, x[0]); e != api.OK || n != uint64(x[1]) || at != x[2] {
			t.Error(x, n, at, e)
		}
	}
	if _, _, e := strand.GetKnot(s, 3); e != api.ErrShort {
		t.Error(e)
	}
	if _, _, e := strand.GetKnot(s, 5); e != api.ErrShort {
		t.Error(e)
	}
	if _, _, e := strand.GetKnot(tied("001"), 0); e != api.ErrShort {
		t.Error(e)
	}
	for _, at := range []int{-1, 6, math.MinInt, math.MaxInt} {
		if n, to, e := strand.GetKnot(s, at); e != api.ErrArg || n != 0 || to != 0 {
			t.Error(at, n, to, e)
		}
	}
	for zeros, want := range map[int]api.Errno{63: api.ErrShort, 64: api.ErrKnot, 65: api.ErrKnot} {
		for _, tail := range []string{"", "1"} {
			if n, to, e := strand.GetKnot(tied(strings.Repeat("0", zeros)+tail), 0); e != want || n != 0 || to != 0 {
				t.Error(zeros, tail, n, to, e)
			}
		}
	}
}

func TestPack(t *testing.T) {
	for text, want := range map[string]string{"": "\x80", "00101": "\x2c", "11111111": "\xff\x80", "1111111": "\xff"} {
		b, e := strand.Pack(tied(text))
		if e != api.OK || string(b) != want {
			t.Error(text, b, e)
		}
		if s, e := strand.Unpack(b); e != api.OK || told(s) != text || !strand.Right(s) {
			t.Error(text, s, e)
		}
	}
	b, e := strand.Pack(full())
	if s, f := strand.Unpack(b); e != api.OK || f != api.OK || s.Len != api.MaxBits || !bytes.Equal(s.Bits, full().Bits) {
		t.Error(len(b), s.Len, e, f)
	}
	b[len(b)-1] = 64
	if s, e := strand.Unpack(b); e != api.ErrPack || !zero(s) {
		t.Error("one bit too many:", e)
	}
	if s, e := strand.Unpack(append(b, 0)); e != api.ErrLong || !zero(s) {
		t.Error(e)
	}
	for _, b := range [][]byte{nil, {}, {0}, {3, 0}} {
		if s, e := strand.Unpack(b); e != api.ErrPack || !zero(s) {
			t.Error(b, e)
		}
	}
}

func TestInARow(t *testing.T) {
	var d samples.Dice
	var s api.Strand
	var ns []uint64
	for range 300 {
		n := uint64(d.Roll(1<<30)) << d.Roll(34)
		s, _ = strand.Knot(s, n)
		s, _ = strand.Field(s, n, 64)
		ns = append(ns, n)
	}
	at := 0
	for _, n := range ns {
		k, mid, e := strand.GetKnot(s, at)
		f, to, g := strand.GetField(s, mid, 64)
		if k != n || f != n || e != api.OK || g != api.OK {
			t.Fatal(n, k, f, e, g)
		}
		at = to
	}
	if at != s.Len {
		t.Error(at, s.Len)
	}
}

func TestNothingShared(t *testing.T) {
	room := append(make([]byte, 0, 9), 0xf0, 1, 2, 3)
	s := api.Strand{Bits: room[:1], Len: 4}
	strand.Join(s, s)
	strand.Field(s, 3, 2)
	strand.Knot(s, 9)
	p, _ := strand.Pack(s)
	c, _ := strand.Cut(s, 0, 4)
	u, _ := strand.Unpack(room[:2])
	p[0], c.Bits[0], u.Bits[0] = 0, 0, 0
	if !bytes.Equal(room, []byte{0xf0, 1, 2, 3}) {
		t.Error(room)
	}
}
