package decode_test

import (
	"bytes"
	"reflect"
	"slices"
	"testing"

	"fretwork/api"
	"fretwork/canon"
	"fretwork/decode"
	"fretwork/graph"
	"fretwork/samples"
)

// code is the code of a planar graph.
func code(t *testing.T, g api.Graph) []byte {
	t.Helper()
	c, e := canon.Canon(g)
	if e != api.OK {
		t.Fatal(g, e)
	}
	return c.Code
}

// some are planar graphs, by chance.
func some(d *samples.Dice) []api.Graph {
	out := []api.Graph{{}, {N: 1}, {N: 5}, samples.Path(2), samples.Ring(6), samples.Beside(samples.Path(2), samples.Path(2)), samples.Beside(samples.Path(1), samples.Ring(4), samples.Path(3), samples.Ring(4))}
	for n := 3; n < 60; n += 5 {
		out = append(out, d.Planar(n, n/2), d.Planar(n, n), d.Planar(n, 2*n), d.Tree(n))
	}
	return out
}

// wrongs are some that are no codes.
func wrongs(t *testing.T) [][]byte {
	k5, _ := graph.Bytes(samples.Complete(5))
	out := [][]byte{nil, {}, {0}, {128}, {255, 255}, k5, append(slices.Clone(code(t, samples.Ring(4))), 0), code(t, samples.Ring(4))[1:]}
	for _, g := range []api.Graph{samples.Ring(5), samples.Prism(4), samples.Star(4)} {
		for _, p := range [][]int{{1, 2, 3, 4, 0}, {4, 2, 0, 1, 3}, {0, 2, 4, 1, 3}} {
			for v := 5; v < g.N; v++ {
				p = append(p, v)
			}
			b, _ := graph.Bytes(samples.Called(g, p))
			if !bytes.Equal(b, code(t, g)) {
				out = append(out, b)
			}
		}
	}
	return out
}

func TestWrong(t *testing.T) {
	for i, b := range wrongs(t) {
		g, e := decode.Decode(b)
		p, f := decode.Pieces(b)
		j, h := decode.Join([][]byte{code(t, samples.Path(2)), b})
		if e != api.ErrCode || f != api.ErrCode || h != api.ErrCode || g.N != 0 || g.Edges != nil || p != nil || j != nil {
			t.Error(i, e, f, h)
		}
	}
}

func TestExamples(t *testing.T) {
	none := code(t, api.Graph{})
	g, e := decode.Decode(none)
	p, f := decode.Pieces(none)
	if e != api.OK || f != api.OK || g.N != 0 || len(p) != 0 {
		t.Error(g, p, e, f)
	}
	if j, e := decode.Join(nil); e != api.OK || !bytes.Equal(j, none) {
		t.Error(j, e)
	}
	good := 0
	for _, p := range [][]int{{0, 1, 2}, {1, 0, 2}, {0, 2, 1}} {
		b, _ := graph.Bytes(samples.Called(samples.Path(3), p))
		g, e := decode.Decode(b)
		if e == api.OK && samples.Same(g, samples.Called(samples.Path(3), p)) {
			good++
		} else if e != api.ErrCode {
			t.Error(p, e)
		}
	}
	if good != 1 {
		t.Error(good)
	}
	edge := code(t, samples.Path(2))
	if p, e := decode.Pieces(code(t, samples.Of(4, [2]int{0, 2}, [2]int{1, 3}))); e != api.OK || !reflect.DeepEqual(p, [][]byte{edge, edge}) {
		t.Error(p, e)
	}
}

func TestDecode(t *testing.T) {
	var d samples.Dice
	for _, g := range some(&d) {
		b := code(t, g)
		h, e := decode.Decode(b)
		again, _ := graph.Bytes(h)
		if e != api.OK || !bytes.Equal(b, again) || g.N < 9 && !samples.Mapped(g, h) {
			t.Error(g, h, e)
		}
	}
}

func TestPiecesAndJoin(t *testing.T) {
	var d samples.Dice
	for _, g := range some(&d) {
		b := code(t, g)
		kept := slices.Clone(b)
		p, e := decode.Pieces(b)
		j, f := decode.Join(p)
		if e != api.OK || f != api.OK || !bytes.Equal(j, b) || !bytes.Equal(b, kept) || !slices.IsSortedFunc(p, bytes.Compare) {
			t.Error(g, e, f)
		}
		n := 0
		for _, x := range p {
			one, e := decode.Pieces(x)
			if e != api.OK || len(one) != 1 || !bytes.Equal(one[0], x) {
				t.Error(g, x, e)
			}
			h, _ := decode.Decode(x)
			n += h.N
		}
		if n != g.N {
			t.Error(g, n)
		}
	}
}

func TestJoin(t *testing.T) {
	var d samples.Dice
	for range 40 {
		var l [][]byte
		var all []api.Graph
		var pieces [][]byte
		for range 1 + d.Roll(4) {
			n := 3 + d.Roll(12)
			g := d.Planar(n, d.Roll(2*n))
			all, l = append(all, g), append(l, code(t, g))
			p, _ := decode.Pieces(code(t, g))
			pieces = append(pieces, p...)
		}
		j, e := decode.Join(l)
		if e != api.OK || !bytes.Equal(j, code(t, samples.Beside(all...))) {
			t.Error(all, e)
		}
		slices.SortFunc(pieces, bytes.Compare)
		if p, _ := decode.Pieces(j); !reflect.DeepEqual(p, pieces) {
			t.Error(all)
		}
		slices.Reverse(l)
		other, _ := decode.Join(l)
		first, _ := decode.Join(l[:1])
		last, _ := decode.Join(l[1:])
		if both, _ := decode.Join([][]byte{last, first}); !bytes.Equal(other, j) || !bytes.Equal(both, j) {
			t.Error(all)
		}
	}
}

func TestJoinLarge(t *testing.T) {
	half, more := code(t, samples.Ring(100)), code(t, samples.Ring(101))
	if j, e := decode.Join([][]byte{half, half}); e != api.OK || !bytes.Equal(j, code(t, samples.Beside(samples.Ring(100), samples.Ring(100)))) {
		t.Error(e)
	}
	if j, e := decode.Join([][]byte{half, more}); e != api.ErrLarge || j != nil {
		t.Error(j, e)
	}
	if j, e := decode.Join([][]byte{half, more, {0}}); e != api.ErrCode || j != nil {
		t.Error(j, e)
	}
	none := code(t, api.Graph{})
	if j, e := decode.Join(slices.Repeat([][]byte{none}, 2000)); e != api.OK || !bytes.Equal(j, none) {
		t.Error(j, e)
	}
}
