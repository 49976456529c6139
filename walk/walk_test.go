package walk_test

import (
	"math"
	"reflect"
	"slices"
	"testing"

	"fretwork/api"
	"fretwork/graph"
	"fretwork/samples"
	"fretwork/walk"
)

// example is the chapter's graph.
func example() api.Graph {
	return samples.Of(5, [2]int{0, 2}, [2]int{0, 3}, [2]int{1, 3}, [2]int{2, 3})
}

// many are right graphs of many shapes.
func many() []api.Graph {
	var d samples.Dice
	out := []api.Graph{example(), samples.Petersen(), samples.Grid(5, 4), samples.Beside(samples.Ring(5), samples.Path(3), samples.Path(1))}
	for n := 1; n <= 200; n += 9 {
		out = append(out, d.Any(n, n), d.Any(n, 3*n), d.Tree(n))
	}
	return out
}

func TestErrors(t *testing.T) {
	wrong := api.Graph{N: 2, Edges: [][2]int{{1, 0}}}
	for _, x := range []struct {
		g        api.Graph
		from, to int
		want     api.Errno
	}{
		{wrong, 0, 1, api.ErrGraph}, {wrong, -1, 9, api.ErrGraph}, {api.Graph{N: -1}, 0, 0, api.ErrGraph}, {api.Graph{N: 201}, 0, 0, api.ErrGraph},
		{api.Graph{}, 0, 0, api.ErrArg}, {samples.Path(3), -1, 0, api.ErrArg}, {samples.Path(3), 3, 0, api.ErrArg}, {samples.Path(3), math.MinInt, math.MaxInt, api.ErrArg},
	} {
		a, b, e := walk.Walk(x.g, x.from)
		c, f := walk.Away(x.g, x.from)
		d, h := walk.Path(x.g, x.from, x.to)
		if e != x.want || f != x.want || h != x.want || a != nil || b != nil || c != nil || d != nil {
			t.Error(x, e, f, h)
		}
	}
	for _, to := range []int{-1, 3, math.MaxInt} {
		if p, e := walk.Path(samples.Path(3), 0, to); e != api.ErrArg || p != nil {
			t.Error(to, p, e)
		}
	}
	if walk.Parts(wrong) != nil || len(walk.Parts(api.Graph{})) != 0 {
		t.Error("parts of nothing")
	}
}

func TestExamples(t *testing.T) {
	order, up, e := walk.Walk(example(), 0)
	if e != api.OK || !slices.Equal(order, []int{0, 2, 3, 1}) || !slices.Equal(up, []int{-1, 3, 0, 2, -1}) {
		t.Error(order, up, e)
	}
	if p := walk.Parts(example()); !reflect.DeepEqual(p, [][]int{{0, 1, 2, 3}, {4}}) {
		t.Error(p)
	}
	if a, e := walk.Away(example(), 2); e != api.OK || !slices.Equal(a, []int{1, 2, 0, 1, -1}) {
		t.Error(a, e)
	}
	if p, e := walk.Path(example(), 1, 0); e != api.OK || !slices.Equal(p, []int{1, 3, 0}) {
		t.Error(p, e)
	}
	if p, e := walk.Path(example(), 0, 4); e != api.ErrApart || p != nil {
		t.Error(p, e)
	}
	if p, e := walk.Path(example(), 2, 2); e != api.OK || !slices.Equal(p, []int{2}) {
		t.Error(p, e)
	}
}

// plainWalk is the walk as the chapter words it.
func plainWalk(g api.Graph, from int) ([]int, []int) {
	beside := graph.Beside(g)
	order, up := []int{from}, slices.Repeat([]int{-1}, g.N)
	for {
		met := len(order)
		for i := len(order) - 1; i >= 0 && len(order) == met; i-- {
			for _, w := range beside[order[i]] {
				if !slices.Contains(order, w) {
					up[w] = order[i]
					order = append(order, w)
					break
				}
			}
		}
		if len(order) == met {
			return order, up
		}
	}
}

func TestWalk(t *testing.T) {
	for _, g := range many() {
		for from := 0; from < g.N; from += 1 + g.N/5 {
			order, up, e := walk.Walk(g, from)
			wantOrder, wantUp := plainWalk(g, from)
			if e != api.OK || !slices.Equal(order, wantOrder) || !slices.Equal(up, wantUp) {
				t.Error(g, from, order, up)
			}
		}
	}
}

func TestPartsAndAway(t *testing.T) {
	for _, g := range many() {
		all := walk.Parts(g)
		var met []int
		last := -1
		for _, part := range all {
			away, e := walk.Away(g, part[0])
			order, _, _ := walk.Walk(g, part[0])
			slices.Sort(order)
			if e != api.OK || part[0] <= last || !slices.Equal(order, part) {
				t.Error(g.N, part, e)
			}
			for v, n := range away {
				if (n >= 0) != slices.Contains(part, v) || (n == 0) != (v == part[0]) {
					t.Error(g.N, v, n)
				}
			}
			for _, x := range g.Edges {
				if away[x[0]] >= 0 && (away[x[0]]-away[x[1]])*(away[x[0]]-away[x[1]]) > 1 {
					t.Error(g.N, x)
				}
			}
			met, last = append(met, part...), part[0]
		}
		if len(met) != g.N {
			t.Error(g.N, all)
		}
	}
}

// leastWay is the least of the shortest ways, had by trying all of that length.
func leastWay(g api.Graph, v, to, n int) []int {
	if n == 0 {
		if v == to {
			return []int{v}
		}
		return nil
	}
	for _, w := range graph.Beside(g)[v] {
		if rest := leastWay(g, w, to, n-1); rest != nil {
			return append([]int{v}, rest...)
		}
	}
	return nil
}

func TestPath(t *testing.T) {
	for _, g := range []api.Graph{samples.Grid(4, 3), samples.Petersen(), samples.Prism(4), example(), samples.Ring(6)} {
		for from := range g.N {
			away, _ := walk.Away(g, from)
			for to := range g.N {
				p, e := walk.Path(g, from, to)
				if away[to] < 0 {
					if e != api.ErrApart || p != nil {
						t.Error(g, from, to, p, e)
					}
				} else if e != api.OK || !slices.Equal(p, leastWay(g, from, to, away[to])) {
					t.Error(g, from, to, p, e)
				}
				q, _ := walk.Path(g, to, from)
				if len(p) != len(q) {
					t.Error(g, from, to, p, q)
				}
			}
		}
	}
}

func TestNothingShared(t *testing.T) {
	g := example()
	p := walk.Parts(g)
	_ = append(p[0], 9)
	if p[1][0] != 4 || !samples.Same(g, example()) {
		t.Error(p, g)
	}
}
