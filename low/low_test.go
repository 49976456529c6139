package low_test

import (
	"reflect"
	"slices"
	"testing"

	"fretwork/api"
	"fretwork/graph"
	"fretwork/low"
	"fretwork/samples"
	"fretwork/walk"
)

// example is the chapter's graph: two triangles, and one edge more.
func example() api.Graph {
	return samples.Of(6, [2]int{0, 1}, [2]int{0, 2}, [2]int{1, 2}, [2]int{2, 3}, [2]int{2, 4}, [2]int{3, 4}, [2]int{4, 5})
}

// many are right graphs of many shapes.
func many() []api.Graph {
	var d samples.Dice
	out := []api.Graph{{}, {N: 1}, {N: 5}, example(), samples.Petersen(), samples.Path(7), samples.Star(5), samples.Beside(samples.Ring(5), example(), samples.Path(2))}
	for n := 2; n <= 26; n++ {
		out = append(out, d.Any(n, n-1), d.Any(n, n+2), d.Tree(n))
	}
	return out
}

func TestErrors(t *testing.T) {
	for _, g := range []api.Graph{{N: -1}, {N: 201}, {N: 2, Edges: [][2]int{{1, 0}}}, {N: 1, Edges: [][2]int{{0, 1}}}} {
		a, e1 := low.Search(g)
		b, e2 := low.Bridges(g)
		c, e3 := low.Cuts(g)
		d, e4 := low.Blocks(g)
		if e1 != api.ErrGraph || e2 != api.ErrGraph || e3 != api.ErrGraph || e4 != api.ErrGraph || a != nil || b != nil || c != nil || d != nil {
			t.Error(g, e1, e2, e3, e4)
		}
	}
}

func TestExamples(t *testing.T) {
	if b, e := low.Bridges(example()); e != api.OK || !reflect.DeepEqual(b, [][2]int{{4, 5}}) {
		t.Error(b, e)
	}
	if c, e := low.Cuts(example()); e != api.OK || !slices.Equal(c, []int{2, 4}) {
		t.Error(c, e)
	}
	if b, e := low.Blocks(example()); e != api.OK || !reflect.DeepEqual(b, [][][2]int{{{0, 1}, {0, 2}, {1, 2}}, {{2, 3}, {2, 4}, {3, 4}}, {{4, 5}}}) {
		t.Error(b, e)
	}
	want := []api.Low{{Num: 1, Up: -1, Low: 1}, {Num: 2, Up: 0, Low: 1}, {Num: 3, Up: 1, Low: 1}, {Num: 4, Up: 2, Low: 3}, {Num: 5, Up: 3, Low: 3}, {Num: 6, Up: 4, Low: 6}}
	if s, e := low.Search(example()); e != api.OK || !slices.Equal(s, want) {
		t.Error(s, e)
	}
}

// plainSearch is the search as the chapter words it.
func plainSearch(g api.Graph) []api.Low {
	out := make([]api.Low, g.N)
	num := 0
	for v := range g.N {
		if out[v].Num > 0 {
			continue
		}
		order, up, _ := walk.Walk(g, v)
		for _, w := range order {
			num++
			out[w] = api.Low{Num: num, Up: up[w], Low: num}
		}
	}
	for v := range out {
		for w := v; w >= 0; w = out[w].Up { // v comes down from w, or is it
			for _, x := range graph.Beside(g)[v] {
				if out[x].Up != v && out[v].Up != x {
					out[w].Low = min(out[w].Low, out[x].Num)
				}
			}
		}
	}
	return out
}

// without is g without a vertex' edges, or without an edge.
func without(g api.Graph, out func(e [2]int) bool) api.Graph {
	return api.Graph{N: g.N, Edges: slices.DeleteFunc(slices.Clone(g.Edges), out)}
}

// together tells whether two edges are in one block: there is a way between them, whichever vertex is left out.
func together(g api.Graph, e, f [2]int) bool {
	for v := range g.N {
		h := without(g, func(x [2]int) bool { return x[0] == v || x[1] == v })
		a, b := e[0], f[0]
		if a == v {
			a = e[1]
		}
		if b == v {
			b = f[1]
		}
		if _, err := walk.Path(h, a, b); err != api.OK {
			return false
		}
	}
	return true
}

func TestSearch(t *testing.T) {
	for _, g := range many() {
		if s, e := low.Search(g); e != api.OK || !slices.Equal(s, plainSearch(g)) {
			t.Error(g, s, e)
		}
	}
}

func TestBridgesAndCuts(t *testing.T) {
	for _, g := range many() {
		var bridges [][2]int
		for _, e := range g.Edges {
			if len(walk.Parts(without(g, func(x [2]int) bool { return x == e }))) > len(walk.Parts(g)) {
				bridges = append(bridges, e)
			}
		}
		var cuts []int
		for v := range g.N {
			if len(walk.Parts(without(g, func(x [2]int) bool { return x[0] == v || x[1] == v }))) > len(walk.Parts(g))+1 {
				cuts = append(cuts, v)
			}
		}
		b, e := low.Bridges(g)
		c, f := low.Cuts(g)
		if e != api.OK || f != api.OK || !slices.Equal(b, bridges) || !slices.Equal(c, cuts) {
			t.Error(g, b, c, e, f)
		}
	}
}

func TestBlocks(t *testing.T) {
	for _, g := range many() {
		blocks, e := low.Blocks(g)
		of := map[[2]int]int{}
		last := [2]int{-1, -1}
		for i, b := range blocks {
			if last[0] > b[0][0] || last[0] == b[0][0] && last[1] >= b[0][1] || !graph.Right(api.Graph{N: g.N, Edges: b}) {
				t.Error(g, blocks)
			}
			last = b[0]
			for _, x := range b {
				of[x] = i
			}
		}
		if e != api.OK || len(of) != len(g.Edges) {
			t.Error(g, blocks, e)
		}
		for _, x := range g.Edges {
			for _, y := range g.Edges {
				if (of[x] == of[y]) != (x == y || together(g, x, y)) {
					t.Error(g, x, y)
				}
			}
		}
	}
}

func TestCalledAnew(t *testing.T) {
	var d samples.Dice
	for n := 3; n <= 200; n += 11 {
		g := d.Any(n, n+n/4)
		p := d.Perm(n)
		h := samples.Called(g, p)
		mine, _ := low.Blocks(g)
		other, _ := low.Blocks(h)
		at := map[[2]int]int{}
		for i, b := range other {
			for _, e := range b {
				at[e] = i
			}
		}
		for _, b := range mine {
			called := samples.Called(api.Graph{N: n, Edges: b}, p).Edges
			if !slices.Equal(called, other[at[called[0]]]) {
				t.Error(n, b)
			}
		}
		if len(mine) != len(other) {
			t.Error(n)
		}
	}
}
