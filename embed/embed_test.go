package embed_test

import (
	"reflect"
	"testing"
	"time"

	"fretwork/api"
	"fretwork/embed"
	"fretwork/faces"
	"fretwork/graph"
	"fretwork/low"
	"fretwork/samples"
	"fretwork/walk"
)

func TestErrors(t *testing.T) {
	for i, x := range []struct {
		g    api.Graph
		want api.Errno
	}{
		{api.Graph{N: -1}, api.ErrGraph}, {api.Graph{N: 201}, api.ErrGraph}, {api.Graph{N: 3, Edges: [][2]int{{1, 0}}}, api.ErrGraph},
		{api.Graph{}, api.ErrApart}, {api.Graph{N: 1}, api.ErrApart}, {samples.Path(2), api.ErrApart}, {samples.Path(3), api.ErrApart}, {api.Graph{N: 3}, api.ErrApart},
		{samples.Of(5, [2]int{0, 1}, [2]int{0, 2}, [2]int{1, 2}, [2]int{2, 3}, [2]int{2, 4}, [2]int{3, 4}), api.ErrApart},
		{samples.Beside(samples.Ring(3), samples.Ring(3)), api.ErrApart}, {samples.Beside(samples.Complete(5), samples.Path(1)), api.ErrApart},
		{samples.Complete(5), api.ErrPlane}, {samples.Bipartite(3, 3), api.ErrPlane}, {samples.Petersen(), api.ErrPlane}, {samples.Complete(34), api.ErrPlane},
		{samples.Subdivided(samples.Complete(5)), api.ErrPlane}, {samples.Subdivided(samples.Petersen()), api.ErrPlane}, {samples.Bipartite(3, 190), api.ErrPlane},
	} {
		if r, e := embed.Embed(x.g); e != x.want || r != nil {
			t.Error(i, r, e)
		}
	}
}

// flat tells of a graph that shall be planar.
func flat(t *testing.T, g api.Graph) {
	t.Helper()
	r, e := embed.Embed(g)
	if e != api.OK || !faces.Plane(g, r) {
		t.Error(g, r, e)
	}
	if again, _ := embed.Embed(g); !reflect.DeepEqual(r, again) {
		t.Error("other circles the second time", g)
	}
}

func two(g api.Graph) bool {
	b, _ := low.Blocks(g)
	return g.N > 2 && len(b) == 1 && len(walk.Parts(g)) == 1
}

func TestPlanar(t *testing.T) {
	for _, g := range []api.Graph{samples.Ring(3), samples.Ring(4), samples.Ring(200), samples.Complete(4), samples.Wheel(199), samples.Prism(4), samples.Prism(100), samples.Grid(14, 14), samples.Bipartite(2, 198)} {
		flat(t, g)
	}
	k5 := samples.Complete(5)
	for i := range k5.Edges {
		flat(t, samples.Of(5, append(append([][2]int{}, k5.Edges[:i]...), k5.Edges[i+1:]...)...))
	}
}

func TestManyPlanar(t *testing.T) {
	var d samples.Dice
	for n := 3; n <= 200; n += 3 {
		flat(t, d.Triangles(n))
		flat(t, d.Strung(n))
		if g := d.Planar(n, 5*n/2); two(g) {
			flat(t, g)
		}
	}
	for range 300 {
		flat(t, d.Strung(4+d.Roll(12)))
		if g := d.Planar(10, 15+d.Roll(8)); two(g) {
			flat(t, g)
		}
	}
}

// everyCircles goes through all circles of g, and tells whether some lie in a plane.
func everyCircles(g api.Graph) bool {
	r := api.Rot(graph.Beside(g))
	var turn func(v, i int) bool
	turn = func(v, i int) bool {
		if v == len(r) {
			return faces.Plane(g, r)
		}
		if i >= len(r[v])-1 {
			return turn(v+1, 1)
		}
		for j := i; j < len(r[v]); j++ {
			r[v][i], r[v][j] = r[v][j], r[v][i]
			if turn(v, i+1) {
				return true
			}
			r[v][i], r[v][j] = r[v][j], r[v][i]
		}
		return false
	}
	return turn(0, 1)
}

func TestAgainstAllCircles(t *testing.T) {
	var d samples.Dice
	yes, no := 0, 0
	for yes < 20 || no < 20 {
		n := 6 + d.Roll(3)
		g := d.Any(n, 3+n+d.Roll(8))
		ways := 1
		for _, l := range graph.Beside(g) {
			for i := 2; i < len(l); i++ {
				ways *= i
			}
		}
		if !two(g) || ways > 20000 {
			continue
		}
		r, e := embed.Embed(g)
		if e == api.OK && !faces.Plane(g, r) || e != api.OK && e != api.ErrPlane || (e == api.OK) != everyCircles(g) {
			t.Fatal(g, r, e)
		}
		if e == api.OK {
			yes++
		} else {
			no++
		}
	}
}

func TestNamesAndParts(t *testing.T) {
	var d samples.Dice
	for range 400 {
		n := 5 + d.Roll(30)
		g := d.Triangles(n)
		for range d.Roll(2) {
			g = samples.Of(n, append(d.Thinned(g, len(g.Edges)-2).Edges, [2]int{d.Roll(n), d.Roll(n)})...)
		}
		if !two(g) {
			continue
		}
		r, e := embed.Embed(g)
		if _, f := embed.Embed(samples.Called(g, d.Perm(n))); e != f {
			t.Error(g, e, f)
		}
		if _, f := embed.Embed(samples.Subdivided(g)); e != f && g.N+len(g.Edges) <= api.MaxN {
			t.Error(g, e, f)
		}
		if e == api.OK && !faces.Plane(g, r) {
			t.Error(g)
		}
		if h := d.Thinned(g, len(g.Edges)-1); e == api.OK && two(h) {
			flat(t, h)
		}
	}
}

func TestSoonDone(t *testing.T) {
	var d samples.Dice
	g := d.Triangles(200)
	begin := time.Now()
	for range 10 {
		flat(t, g)
	}
	if took := time.Since(begin); took > 20*time.Second {
		t.Error(took)
	}
}
