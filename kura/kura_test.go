package kura_test

import (
	"math"
	"slices"
	"testing"

	"fretwork/api"
	"fretwork/embed"
	"fretwork/kura"
	"fretwork/samples"
)

// plainFind goes through the edges one by one, as the chapter words it.
func plainFind(g api.Graph) [][2]int {
	if kura.Planar(g) {
		return nil
	}
	left := slices.Clone(g.Edges)
	for _, e := range g.Edges {
		fewer := slices.DeleteFunc(slices.Clone(left), func(x [2]int) bool { return x == e })
		if !kura.Planar(api.Graph{N: g.N, Edges: fewer}) {
			left = fewer
		}
	}
	return left
}

func TestExamples(t *testing.T) {
	for _, x := range []struct {
		g    api.Graph
		n    int
		kind int
	}{
		{samples.Complete(5), 10, 5}, {samples.Bipartite(3, 3), 9, 33}, {samples.Complete(6), 10, 5}, {samples.Subdivided(samples.Complete(5)), 20, 5}, {samples.Petersen(), 15 - 3, 33},
		{samples.Ring(7), 0, 0}, {samples.Complete(4), 0, 0}, {api.Graph{}, 0, 0}, {api.Graph{N: 200}, 0, 0}, {samples.Prism(7), 0, 0}, {samples.Beside(samples.Ring(3), samples.Complete(5), samples.Complete(5)), 10, 5},
	} {
		f, e := kura.Find(x.g)
		if e != api.OK || len(f) != x.n || kura.Kind(f) != x.kind || kura.Planar(x.g) != (x.n == 0) {
			t.Error(x.g, f, e, kura.Kind(f))
		}
	}
	f, _ := kura.Find(samples.Complete(6))
	if slices.ContainsFunc(f, func(e [2]int) bool { return e[0] == 0 }) {
		t.Error(f)
	}
}

func TestWrongGraphs(t *testing.T) {
	for i, g := range []api.Graph{{N: -1}, {N: 201}, {N: 2, Edges: [][2]int{{1, 0}}}, {N: 36, Edges: samples.Complete(36).Edges}} {
		if f, e := kura.Find(g); e != api.ErrGraph || f != nil || kura.Planar(g) {
			t.Error(i, f, e)
		}
	}
}

func TestKind(t *testing.T) {
	k5, k33 := samples.Complete(5), samples.Bipartite(3, 3)
	for i, g := range []api.Graph{
		{}, {N: 2, Edges: [][2]int{{1, 0}}}, {N: 2, Edges: [][2]int{{0, 0}}}, {Edges: [][2]int{{-1, 0}}}, {Edges: [][2]int{{0, math.MaxInt}}}, {Edges: append(slices.Clone(k5.Edges), [2]int{7, 200})},
		samples.Complete(4), samples.Complete(6), samples.Prism(3), samples.Ring(5), samples.Wheel(4), samples.Wheel(5), samples.Petersen(),
		{Edges: k5.Edges[1:]}, {Edges: k33.Edges[1:]}, {Edges: slices.Concat(k5.Edges, k5.Edges)}, samples.Beside(k5, samples.Ring(3)), samples.Beside(k33, samples.Ring(3)), samples.Beside(k5, k33),
		samples.Of(6, append([][2]int{{4, 5}}, k5.Edges...)...), samples.Of(7, append([][2]int{{5, 6}}, k33.Edges...)...), samples.Bipartite(3, 4), samples.Bipartite(2, 4),
		samples.Of(12, [2]int{0, 1}, [2]int{1, 2}, [2]int{0, 2}, [2]int{3, 4}, [2]int{4, 5}, [2]int{3, 5}, [2]int{0, 6}, [2]int{6, 3}, [2]int{1, 4}, [2]int{2, 5}),
		samples.Subdivided(samples.Of(5, [2]int{0, 1}, [2]int{0, 2}, [2]int{0, 3}, [2]int{1, 2}, [2]int{1, 3}, [2]int{2, 3})),
	} {
		if k := kura.Kind(g.Edges); k != 0 {
			t.Error(i, g, k)
		}
	}
	var d samples.Dice
	for want, g := range map[int]api.Graph{5: k5, 33: k33} {
		for range 4 {
			shifted := samples.Called(samples.Beside(g, api.Graph{N: 200 - g.N}), d.Perm(200))
			if k := kura.Kind(shifted.Edges); k != want {
				t.Error(shifted, k)
			}
			if g.N+len(g.Edges) <= 200 {
				g = samples.Subdivided(g)
			}
		}
	}
	// Two rows of two ways each between five corners: each has four, but not one between each two.
	double := samples.Subdivided(samples.Ring(5)).Edges
	if k := kura.Kind(samples.Of(15, append(double, [2]int{0, 1}, [2]int{1, 2}, [2]int{2, 3}, [2]int{3, 4}, [2]int{0, 4})...).Edges); k != 0 {
		t.Error(k)
	}
}

// twisted are graphs near to planar ones.
func twisted(d *samples.Dice, n int) api.Graph {
	g := d.Planar(n, 2*n+d.Roll(n))
	extra := d.Any(n, 1+d.Roll(4))
	return samples.Of(n, append(extra.Edges, g.Edges...)...)
}

func TestFind(t *testing.T) {
	var d samples.Dice
	for range 150 {
		g := twisted(&d, 5+d.Roll(20))
		f, e := kura.Find(g)
		if e != api.OK || !slices.Equal(f, plainFind(g)) {
			t.Error(g, f, e)
		}
		if kura.Planar(g) != (len(f) == 0) || (len(f) > 0) != (kura.Kind(f) != 0) {
			t.Error(g, f)
		}
		for i := range f {
			if !kura.Planar(api.Graph{N: g.N, Edges: slices.Concat(f[:i], f[i+1:])}) {
				t.Error(g, f, i)
			}
		}
	}
}

func TestPlanar(t *testing.T) {
	var d samples.Dice
	for n := 3; n <= 120; n += 4 {
		g := d.Planar(n, 2*n)
		if !kura.Planar(g) || !kura.Planar(samples.Beside(g, d.Tree(n/2))) {
			t.Error(g)
		}
		h := twisted(&d, n+2)
		if kura.Planar(h) != kura.Planar(samples.Called(h, d.Perm(h.N))) || kura.Planar(samples.Beside(h, samples.Complete(5))) {
			t.Error(h)
		}
		if _, e := embed.Embed(h); e != api.ErrApart && kura.Planar(h) != (e == api.OK) {
			t.Error(h, e)
		}
	}
}

func TestLarge(t *testing.T) {
	var d samples.Dice
	for range 3 {
		g := d.Thinned(d.Triangles(200), 590)
		g = samples.Of(200, append(d.Any(200, 3).Edges, g.Edges...)...)
		f, e := kura.Find(g)
		if e != api.OK || kura.Planar(g) != (kura.Kind(f) == 0) {
			t.Error(len(f), e)
		}
	}
}
