package catalogue_test

import (
	"bytes"
	"math"
	"slices"
	"testing"

	"fretwork/api"
	"fretwork/canon"
	"fretwork/catalogue"
	"fretwork/graph"
	"fretwork/iso"
	"fretwork/samples"
)

// code is the code of a planar graph.
func code(g api.Graph) []byte {
	c, _ := canon.Canon(g)
	return c.Code
}

// exported is the bytes of classes: graphs, and how often each was put.
func exported(puts int, l ...api.Graph) []byte {
	out := samples.Numbers(len(l))
	for _, g := range l {
		out = append(out, samples.Numbers(puts, len(code(g)))...)
		out = append(out, code(g)...)
	}
	return out
}

func TestNew(t *testing.T) {
	for _, most := range []int{-1, api.MaxClasses + 1, math.MinInt, math.MaxInt} {
		c, e := catalogue.New(most)
		d, f := catalogue.Import(most, nil)
		if c != nil || d != nil || e != api.ErrArg || f != api.ErrArg {
			t.Error(most, e, f)
		}
	}
	for _, most := range []int{0, 1, api.MaxClasses} {
		if c, e := catalogue.New(most); c == nil || e != api.OK || c.Len() != 0 || !bytes.Equal(c.Export(), samples.Numbers(0)) {
			t.Error(most, e)
		}
	}
	c, _ := catalogue.New(0)
	if n, is, e := c.Put(api.Graph{}); n != 0 || is || e != api.ErrFull {
		t.Error(n, is, e)
	}
}

func TestNil(t *testing.T) {
	good, _ := catalogue.New(3)
	good.Put(samples.Path(2))
	copied := *good
	for i, c := range []*catalogue.Cat{nil, {}, new(catalogue.Cat), &copied} {
		n, is, e := c.Put(api.Graph{N: -1})
		m, p, f := c.Find(samples.Complete(5))
		g, puts, ok := c.At(1)
		if n != 0 || is || e != api.ErrNil || m != 0 || p != nil || f != api.ErrNil || g.N != 0 || puts != 0 || ok || c.Len() != 0 || c.Export() != nil {
			t.Error(i, e, f)
		}
	}
	if good.Len() != 1 {
		t.Error(good.Len())
	}
}

func TestExamples(t *testing.T) {
	c, _ := catalogue.New(2)
	other := samples.Of(3, [2]int{0, 1}, [2]int{0, 2})
	for i, x := range []struct {
		g  api.Graph
		n  int
		is bool
		e  api.Errno
	}{
		{samples.Path(3), 1, true, api.OK}, {other, 1, false, api.OK}, {api.Graph{N: 2}, 2, true, api.OK}, {api.Graph{N: 1}, 0, false, api.ErrFull}, {samples.Complete(5), 0, false, api.ErrPlane}, {api.Graph{N: -1}, 0, false, api.ErrGraph},
	} {
		if n, is, e := c.Put(x.g); n != x.n || is != x.is || e != x.e {
			t.Error(i, n, is, e)
		}
	}
	last := samples.Of(3, [2]int{0, 2}, [2]int{1, 2})
	n, p, e := c.Find(last)
	g, puts, ok := c.At(1)
	if c.Len() != 2 || n != 1 || e != api.OK || !ok || puts != 2 || !iso.Is(last, g, p) || !bytes.Equal(code(g), code(samples.Path(3))) {
		t.Error(n, p, e, g, puts, ok)
	}
	for _, n := range []int{0, 3, -1, math.MinInt, math.MaxInt} {
		if g, puts, ok := c.At(n); g.N != 0 || g.Edges != nil || puts != 0 || ok {
			t.Error(n, g, puts, ok)
		}
	}
	for want, g := range map[api.Errno]api.Graph{api.ErrIso: samples.Ring(3), api.ErrPlane: samples.Petersen(), api.ErrGraph: {N: 201}} {
		if n, p, e := c.Find(g); n != 0 || p != nil || e != want {
			t.Error(n, p, e)
		}
	}
	path := code(samples.Path(3))
	want := slices.Concat(samples.Numbers(2, 2, len(path)), path, samples.Numbers(1, len(code(api.Graph{N: 2}))), code(api.Graph{N: 2}))
	b := c.Export()
	if !bytes.Equal(b, want) {
		t.Error(b, want)
	}
	if d, e := catalogue.Import(1, b); d != nil || e != api.ErrFull {
		t.Error(d, e)
	}
	if d, e := catalogue.Import(2, b[:len(b)-1]); d != nil || e != api.ErrCat {
		t.Error(d, e)
	}
}

func TestImportWrong(t *testing.T) {
	one, two := samples.Path(2), samples.Ring(3)
	good := exported(1, one, two)
	called := samples.Numbers(1, 1)
	for _, p := range [][]int{{0, 1, 2}, {1, 0, 2}} { // one of both at least is called otherwise than its code tells
		if b, _ := graph.Bytes(samples.Called(samples.Path(3), p)); !bytes.Equal(b, code(samples.Path(3))) {
			called = slices.Concat(samples.Numbers(1, 1, len(b)), b)
		}
	}
	for i, b := range [][]byte{
		nil, {0}, {0, 0, 0}, samples.Numbers(1), samples.Numbers(-1), samples.Numbers(1 << 31), samples.Numbers(0, 0), append(slices.Clone(good), 0), good[1:], exported(0, one), exported(-1, one), exported(1<<31, one), exported(1, one, one), exported(1, one, two, one),
		samples.Numbers(1, 1, 0), samples.Numbers(1, 1, -1), samples.Numbers(1, 1, 1<<31-1), slices.Concat(samples.Numbers(1, 1, 1), []byte{0}), called, slices.Concat(samples.Numbers(3), good[4:]), slices.Concat(samples.Numbers(1), good[4:]),
	} {
		if c, e := catalogue.Import(0, b); c != nil || e != api.ErrCat {
			t.Error(i, e)
		}
		if c, e := catalogue.Import(1000, b); c != nil || e != api.ErrCat {
			t.Error(i, e)
		}
	}
	for cut := range good {
		if c, e := catalogue.Import(9, good[:cut]); c != nil || e != api.ErrCat {
			t.Error(cut, e)
		}
	}
	if c, e := catalogue.Import(0, samples.Numbers(0)); e != api.OK || c.Len() != 0 {
		t.Error(e)
	}
	if c, e := catalogue.Import(1, exported(1<<31-1, one)); e != api.OK || !bytes.Equal(c.Export(), exported(1<<31-1, one)) {
		t.Error(e)
	}
}

func TestImportFull(t *testing.T) {
	var l []api.Graph
	for n := range 5 {
		l = append(l, api.Graph{N: n})
	}
	for most := range 8 {
		c, e := catalogue.Import(most, exported(3, l...))
		if most < 5 && (c != nil || e != api.ErrFull) || most >= 5 && (e != api.OK || c.Len() != 5) {
			t.Error(most, e)
		}
	}
}

func TestMany(t *testing.T) {
	var d samples.Dice
	c, _ := catalogue.New(60)
	var firsts []api.Graph
	var puts []int
	for range 400 {
		n := 3 + d.Roll(3)
		g := d.Planar(n, d.Roll(2*n))
		want := slices.IndexFunc(firsts, func(h api.Graph) bool { return samples.Mapped(g, h) })
		before := c.Export()
		n, is, e := c.Put(g)
		if want < 0 && len(firsts) == 60 {
			if e != api.ErrFull || n != 0 || is || !bytes.Equal(before, c.Export()) {
				t.Fatal(g, n, is, e)
			}
			continue
		}
		if want < 0 {
			firsts, puts, want = append(firsts, g), append(puts, 0), len(firsts)
		}
		puts[want]++
		if e != api.OK || n != want+1 || is != (puts[want] == 1) || c.Len() != len(firsts) {
			t.Fatal(g, n, is, e)
		}
	}
	again, e := catalogue.Import(60, c.Export())
	if e != api.OK || !bytes.Equal(again.Export(), c.Export()) {
		t.Error(e)
	}
	for i, g := range firsts {
		for _, x := range []*catalogue.Cat{c, again} {
			h, n, ok := x.At(i + 1)
			m, p, e := x.Find(g)
			if !ok || n != puts[i] || m != i+1 || e != api.OK || !iso.Is(g, h, p) {
				t.Error(g, h, n, ok, m, p, e)
			}
		}
	}
	// What is done with the one is not done with the other.
	again.Put(firsts[0])
	if _, n, _ := c.At(1); n != puts[0] {
		t.Error(n, puts[0])
	}
}

func TestNothingShared(t *testing.T) {
	c, _ := catalogue.New(5)
	c.Put(samples.Path(3))
	b := c.Export()
	d, _ := catalogue.Import(5, b)
	for i := range b {
		b[i] = 9
	}
	_, p, _ := c.Find(samples.Path(3))
	g, _, _ := c.At(1)
	p[0], g.Edges[0][0] = 77, 77
	h, _, ok := c.At(1)
	if _, q, _ := c.Find(samples.Path(3)); !ok || !iso.Is(samples.Path(3), h, q) || !bytes.Equal(c.Export(), d.Export()) {
		t.Error(h, q)
	}
}
