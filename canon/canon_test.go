package canon_test

import (
	"bytes"
	"math"
	"slices"
	"testing"
	"time"

	"fretwork/api"
	"fretwork/canon"
	"fretwork/graph"
	"fretwork/kura"
	"fretwork/perm"
	"fretwork/samples"
)

func TestWrong(t *testing.T) {
	for i, x := range []struct {
		g     api.Graph
		tints []int
	}{
		{api.Graph{N: -1}, nil}, {api.Graph{}, []int{0}}, {api.Graph{N: 2}, nil}, {samples.Path(3), make([]int, 2)}, {samples.Path(3), make([]int, 4)}, {samples.Path(3), []int{0, -1, 0}}, {samples.Path(3), []int{0, api.MaxTint, 0}},
		{samples.Path(3), []int{math.MinInt, 0, math.MaxInt}}, {api.Graph{N: 2, Edges: [][2]int{{1, 0}}}, make([]int, 2)}, {api.Graph{N: 201}, make([]int, 201)}, {samples.Complete(5), make([]int, 4)},
	} {
		order := make([]int, max(0, x.g.N))
		for i := range order {
			order[i] = i
		}
		c, e := canon.Code(x.g, x.tints, order)
		n, f := canon.Tinted(x.g, x.tints)
		if canon.Right(x.g, x.tints) || e != api.ErrTints || f != api.ErrTints || c != nil || n.Code != nil || n.Order != nil {
			t.Error(i, e, f)
		}
	}
	for _, order := range [][]int{nil, {0, 1}, {0, 1, 1}, {0, 1, 3}, {-1, 1, 2}, {0, 1, 2, 2}} {
		if c, e := canon.Code(api.Graph{N: 3}, make([]int, 3), order); e != api.ErrTints || c != nil {
			t.Error(order, c, e)
		}
	}
	for i, g := range []api.Graph{{N: -1}, {N: 201}, {N: 2, Edges: [][2]int{{1, 0}}}, {N: 36, Edges: samples.Complete(36).Edges}} {
		if c, e := canon.Canon(g); e != api.ErrGraph || c.Code != nil || c.Perm != nil {
			t.Error(i, c, e)
		}
	}
	leaf := samples.Of(7, append(samples.Bipartite(3, 3).Edges, [2]int{2, 6})...)
	for i, g := range []api.Graph{samples.Complete(5), leaf, samples.Beside(samples.Ring(3), samples.Petersen()), samples.Complete(34)} {
		c, e := canon.Canon(g)
		n, f := canon.Tinted(g, make([]int, g.N))
		if e != api.ErrPlane || f != api.ErrPlane || c.Code != nil || c.Perm != nil || n.Code != nil || n.Order != nil {
			t.Error(i, e, f)
		}
	}
}

func TestExamples(t *testing.T) {
	c, e := canon.Canon(api.Graph{})
	if b, _ := graph.Bytes(api.Graph{}); e != api.OK || !bytes.Equal(c.Code, b) || len(c.Perm) != 0 {
		t.Error(c, e)
	}
	if n, e := canon.Tinted(api.Graph{}, nil); e != api.OK || !bytes.Equal(n.Code, samples.Numbers(0, 0)) || len(n.Order) != 0 {
		t.Error(n, e)
	}
	a, _ := canon.Canon(samples.Of(4, [2]int{0, 2}, [2]int{1, 3}))
	b, _ := canon.Canon(samples.Of(4, [2]int{0, 1}, [2]int{2, 3}))
	x, _ := canon.Canon(samples.Beside(samples.Ring(3), samples.Path(1)))
	y, _ := canon.Canon(samples.Star(3))
	if !bytes.Equal(a.Code, b.Code) || bytes.Equal(x.Code, y.Code) {
		t.Error(a, b, x, y)
	}
	n, e := canon.Tinted(api.Graph{N: 2}, []int{7, 4})
	if e != api.OK || !bytes.Equal(n.Code, samples.Numbers(2, 4, 7, 0)) && !bytes.Equal(n.Code, samples.Numbers(2, 7, 4, 0)) {
		t.Error(n, e)
	}
	if c, e := canon.Code(samples.Path(3), []int{4, 5, 6}, []int{2, 0, 1}); e != api.OK || !bytes.Equal(c, samples.Numbers(3, 6, 4, 5, 2, 0, 2, 1, 2)) {
		t.Error(c, e)
	}
}

// code is what Canon tells, its permutation and Tinted held against it.
func code(t *testing.T, g api.Graph) string {
	t.Helper()
	c, e := canon.Canon(g)
	h, f := perm.Apply(g, c.Perm)
	b, _ := graph.Bytes(h)
	if e != api.OK || f != api.OK || !bytes.Equal(b, c.Code) {
		t.Fatal(g, c, e, f)
	}
	if again, e := canon.Canon(h); e != api.OK || !bytes.Equal(again.Code, c.Code) {
		t.Error(g, h, e)
	}
	return string(c.Code)
}

// tinted is what Tinted tells, held against Code.
func tinted(t *testing.T, g api.Graph, tints []int) string {
	t.Helper()
	n, e := canon.Tinted(g, tints)
	c, f := canon.Code(g, tints, n.Order)
	if e != api.OK || f != api.OK || !bytes.Equal(c, n.Code) {
		t.Fatal(g, tints, n, e, f)
	}
	return string(n.Code)
}

func TestCalledAnew(t *testing.T) {
	var d samples.Dice
	for n := 3; n <= 200; n += 1 + n/20 {
		for _, g := range []api.Graph{d.Planar(n, n/2), d.Planar(n, n), d.Planar(n, 2*n), d.Triangles(n), d.Tree(n), {N: n}} {
			tints := d.Tints(g.N, 1+d.Roll(3))
			h, others := samples.TintedCalled(g, tints, d.Perm(g.N))
			if tinted(t, g, tints) != tinted(t, h, others) || code(t, g) != code(t, h) {
				t.Error(g, tints, h, others)
			}
		}
	}
}

// every goes through all graphs of n vertices.
func every(n int, f func(g api.Graph)) {
	all := samples.Complete(n).Edges
	for bits := range 1 << len(all) {
		g := api.Graph{N: n}
		for i, e := range all {
			if bits>>i&1 == 1 {
				g.Edges = append(g.Edges, e)
			}
		}
		f(g)
	}
}

func TestAllSmall(t *testing.T) {
	// How many planar graphs of n vertices there are, but for names.
	for n, want := range []int{1, 1, 2, 4, 11, 33, 142} {
		codes := map[string]api.Graph{}
		every(n, func(g api.Graph) {
			c, e := canon.Canon(g)
			if (e == api.OK) != kura.Planar(g) || e != api.OK && e != api.ErrPlane {
				t.Fatal(g, e)
			}
			if h, met := codes[string(c.Code)]; e == api.OK && met && n < 6 && !samples.Mapped(g, h) {
				t.Error(g, h)
			}
			if e == api.OK {
				codes[string(c.Code)] = g
			}
		})
		if len(codes) != want {
			t.Error(n, len(codes), want)
		}
	}
}

func TestTintedAgainstAllMaps(t *testing.T) {
	var d samples.Dice
	var yes, no int
	for range 2000 {
		n := 3 + d.Roll(5)
		m := d.Roll(2 * n)
		g, h := d.Planar(n, m), d.Planar(n, m)
		if d.Roll(3) == 0 {
			h = samples.Called(g, d.Perm(n))
		}
		if len(g.Edges) != len(h.Edges) {
			continue
		}
		tints, others := d.Tints(n, 1+d.Roll(2)), d.Tints(n, 2)
		if slices.Max(tints) == 0 || d.Roll(2) == 0 {
			others = slices.Clone(tints)
		}
		same := samples.TintedMapped(g, tints, h, others)
		if (tinted(t, g, tints) == tinted(t, h, others)) != same {
			t.Fatal(g, tints, h, others, same)
		}
		if same {
			yes++
		} else {
			no++
		}
	}
	if yes < 200 || no < 200 {
		t.Error(yes, no)
	}
}

func TestLarge(t *testing.T) {
	var d samples.Dice
	begin := time.Now()
	for _, g := range []api.Graph{d.Tree(200), {N: 200}, d.Triangles(200), d.Planar(200, 400), samples.Ring(200), samples.Bipartite(2, 198), samples.Wheel(199)} {
		if code(t, g) != code(t, samples.Called(g, d.Perm(g.N))) {
			t.Error(g.N)
		}
	}
	if took := time.Since(begin); took > 60*time.Second {
		t.Error(took)
	}
}

func TestNothingChanged(t *testing.T) {
	g, tints := samples.Grid(3, 2), []int{0, 1, 2, 3, 4, 5}
	canon.Tinted(g, tints)
	c, _ := canon.Canon(g)
	c.Perm[0] = 99
	if !samples.Same(g, samples.Grid(3, 2)) || !slices.IsSorted(tints) {
		t.Error(g, tints)
	}
}
