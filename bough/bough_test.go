package bough_test

import (
	"bytes"
	"math"
	"slices"
	"testing"
	"time"

	"fretwork/api"
	"fretwork/bough"
	"fretwork/samples"
	"fretwork/walk"
)

// connected is a connected planar graph of n vertices, by chance: blocks hung on one another.
func connected(d *samples.Dice, n int) api.Graph {
	g := d.Tree(1 + d.Roll(max(1, n/4)))
	for g.N < n {
		h := d.Tree(2 + d.Roll(3))
		if d.Roll(2) == 0 {
			h = d.Strung(3 + d.Roll(5))
		}
		at := d.Roll(g.N)
		p := make([]int, h.N) // its vertex 0 is at, the others are new
		for i := range p {
			p[i] = g.N + i - 1
		}
		p[0] = at
		edges := g.Edges
		for _, e := range h.Edges {
			edges = append(edges, [2]int{p[e[0]], p[e[1]]})
		}
		g = samples.Of(g.N+h.N-1, edges...)
	}
	return samples.Called(g, d.Perm(g.N))
}

func TestWrong(t *testing.T) {
	for i, x := range []struct {
		g     api.Graph
		tints []int
	}{
		{api.Graph{}, nil}, {api.Graph{N: -1}, nil}, {api.Graph{N: 2}, make([]int, 2)}, {samples.Path(3), nil}, {samples.Path(3), make([]int, 2)}, {samples.Path(3), make([]int, 4)}, {samples.Path(3), []int{0, -1, 0}},
		{samples.Path(3), []int{0, api.MaxTint, 0}}, {samples.Path(3), []int{math.MinInt, 0, math.MaxInt}}, {samples.Beside(samples.Ring(3), samples.Path(1)), make([]int, 4)}, {api.Graph{N: 2, Edges: [][2]int{{1, 0}}}, make([]int, 2)},
		{api.Graph{N: 201, Edges: samples.Path(201).Edges}, make([]int, 201)},
	} {
		order := make([]int, max(0, x.g.N))
		for i := range order {
			order[i] = i
		}
		c, e := bough.Code(x.g, x.tints, order)
		n, f := bough.Canon(x.g, x.tints)
		if bough.Right(x.g, x.tints) || e != api.ErrBough || f != api.ErrBough || c != nil || n.Code != nil || n.Order != nil {
			t.Error(i, e, f)
		}
	}
	for _, order := range [][]int{nil, {0, 1}, {0, 1, 1}, {0, 1, 3}, {-1, 1, 2}, {0, 1, 2, 2}} {
		if c, e := bough.Code(samples.Path(3), make([]int, 3), order); e != api.ErrBough || c != nil {
			t.Error(order, c, e)
		}
	}
	hung := samples.Of(7, append(samples.Complete(5).Edges, [2]int{4, 5}, [2]int{5, 6})...)
	for i, g := range []api.Graph{samples.Complete(5), samples.Petersen(), hung, samples.Called(hung, []int{6, 5, 4, 3, 2, 1, 0})} {
		n, e := bough.Canon(g, make([]int, g.N))
		if e != api.ErrPlane || n.Code != nil || n.Order != nil || !bough.Right(g, make([]int, g.N)) {
			t.Error(i, n, e)
		}
	}
}

func TestExamples(t *testing.T) {
	n, e := bough.Canon(samples.Path(1), []int{5})
	if e != api.OK || !slices.Equal(n.Order, []int{0}) || !bytes.Equal(n.Code, samples.Numbers(1, 5, 0)) {
		t.Error(n, e)
	}
	if c, e := bough.Code(samples.Path(3), make([]int, 3), []int{1, 0, 2}); e != api.OK || !bytes.Equal(c, samples.Numbers(3, 0, 0, 0, 2, 0, 1, 0, 2)) {
		t.Error(c, e)
	}
	a, _ := bough.Canon(samples.Star(3), make([]int, 4))
	b, _ := bough.Canon(samples.Called(samples.Star(3), []int{3, 0, 1, 2}), make([]int, 4))
	c, _ := bough.Canon(samples.Path(4), make([]int, 4))
	if !bytes.Equal(a.Code, b.Code) || bytes.Equal(a.Code, c.Code) {
		t.Error(a, b, c)
	}
}

// canon is what Canon tells, held against Code.
func canon(t *testing.T, g api.Graph, tints []int) string {
	t.Helper()
	n, e := bough.Canon(g, tints)
	c, f := bough.Code(g, tints, n.Order)
	if e != api.OK || f != api.OK || !bytes.Equal(c, n.Code) {
		t.Fatal(g, tints, n, e, f)
	}
	return string(n.Code)
}

func TestCalledAnew(t *testing.T) {
	var d samples.Dice
	for n := 1; n <= 190; n += 1 + n/20 {
		for _, g := range []api.Graph{connected(&d, n), connected(&d, 1+n/6), d.Tree(n), samples.Path(n), samples.Star(n)} {
			tints := d.Tints(g.N, 1+d.Roll(2))
			if d.Roll(3) == 0 {
				tints[0] = api.MaxTint - 1
			}
			h, others := samples.TintedCalled(g, tints, d.Perm(g.N))
			if canon(t, g, tints) != canon(t, h, others) {
				t.Error(g, tints, h, others)
			}
		}
	}
}

func TestAgainstAllMaps(t *testing.T) {
	var d samples.Dice
	var yes, no int
	for range 3000 {
		g := connected(&d, 3+d.Roll(5))
		h := connected(&d, g.N)
		if d.Roll(3) == 0 {
			h = samples.Called(g, d.Perm(g.N))
		}
		if g.N != h.N || g.N > 9 || len(g.Edges) != len(h.Edges) {
			continue
		}
		tints, others := d.Tints(g.N, 1+d.Roll(2)), d.Tints(h.N, 2)
		if slices.Max(tints) == 0 || d.Roll(2) == 0 {
			others = slices.Clone(tints)
		}
		same := samples.TintedMapped(g, tints, h, others)
		if (canon(t, g, tints) == canon(t, h, others)) != same {
			t.Fatal(g, tints, h, others, same)
		}
		if same {
			yes++
		} else {
			no++
		}
	}
	if yes < 200 || no < 200 {
		t.Error(yes, no)
	}
}

func TestAllSmall(t *testing.T) {
	// Of five vertices there are 21 connected graphs, and one of them is not planar.
	codes := map[string]api.Graph{}
	all := samples.Complete(5).Edges
	for bits := range 1 << len(all) {
		g := api.Graph{N: 5}
		for i, e := range all {
			if bits>>i&1 == 1 {
				g.Edges = append(g.Edges, e)
			}
		}
		if len(walk.Parts(g)) != 1 || len(g.Edges) == 10 {
			continue
		}
		code := canon(t, g, make([]int, 5))
		if h, met := codes[code]; met && !samples.Mapped(g, h) {
			t.Error(g, h)
		}
		codes[code] = g
	}
	if len(codes) != 20 {
		t.Error(len(codes))
	}
}

func TestLarge(t *testing.T) {
	var d samples.Dice
	begin := time.Now()
	for _, g := range []api.Graph{d.Tree(200), samples.Path(200), samples.Star(199), connected(&d, 190), d.Triangles(200)} {
		tints := make([]int, g.N)
		h, others := samples.TintedCalled(g, tints, d.Perm(g.N))
		if canon(t, g, tints) != canon(t, h, others) {
			t.Error(g.N)
		}
	}
	if took := time.Since(begin); took > 60*time.Second {
		t.Error(took)
	}
}

func TestNothingChanged(t *testing.T) {
	g, tints := samples.Grid(3, 2), []int{0, 1, 2, 3, 4, 5}
	bough.Canon(g, tints)
	if !samples.Same(g, samples.Grid(3, 2)) || !slices.IsSorted(tints) {
		t.Error(g, tints)
	}
}
