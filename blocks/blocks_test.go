package blocks_test

import (
	"math"
	"reflect"
	"slices"
	"testing"

	"fretwork/api"
	"fretwork/blocks"
	"fretwork/low"
	"fretwork/samples"
)

// example is the chapter's graph: two triangles, and one edge more.
func example() api.Graph {
	return samples.Of(6, [2]int{0, 1}, [2]int{0, 2}, [2]int{1, 2}, [2]int{2, 3}, [2]int{2, 4}, [2]int{3, 4}, [2]int{4, 5})
}

// linked is a tree of so many blocks and cut vertices, with these links.
func linked(b, c int, links ...[2]int) api.BlockTree {
	return api.BlockTree{Blocks: make([][][2]int, b), Cuts: make([]int, c), Links: links}
}

func TestTreeErrors(t *testing.T) {
	for _, x := range []struct {
		g    api.Graph
		want api.Errno
	}{
		{api.Graph{N: -1}, api.ErrGraph}, {api.Graph{N: 201}, api.ErrGraph}, {api.Graph{N: 3, Edges: [][2]int{{2, 1}}}, api.ErrGraph},
		{api.Graph{}, api.ErrApart}, {api.Graph{N: 1}, api.ErrApart}, {api.Graph{N: 2}, api.ErrApart}, {samples.Beside(samples.Ring(3), samples.Path(1)), api.ErrApart},
	} {
		if tree, e := blocks.Tree(x.g); e != x.want || tree.Blocks != nil || tree.Cuts != nil || tree.Links != nil {
			t.Error(x.g, tree, e)
		}
	}
}

func TestExamples(t *testing.T) {
	tree, e := blocks.Tree(example())
	want := api.BlockTree{Blocks: [][][2]int{{{0, 1}, {0, 2}, {1, 2}}, {{2, 3}, {2, 4}, {3, 4}}, {{4, 5}}}, Cuts: []int{2, 4}, Links: [][2]int{{0, 0}, {1, 0}, {1, 1}, {2, 1}}}
	if e != api.OK || !reflect.DeepEqual(tree, want) {
		t.Error(tree, e)
	}
	if is, at := blocks.Centre(tree); !is || at != 1 {
		t.Error(is, at)
	}
	tree, e = blocks.Tree(samples.Path(3))
	want = api.BlockTree{Blocks: [][][2]int{{{0, 1}}, {{1, 2}}}, Cuts: []int{1}, Links: [][2]int{{0, 0}, {1, 0}}}
	if e != api.OK || !reflect.DeepEqual(tree, want) {
		t.Error(tree, e)
	}
	if is, at := blocks.Centre(tree); is || at != 0 {
		t.Error(is, at)
	}
	tree, _ = blocks.Tree(samples.Ring(3))
	if is, at := blocks.Centre(tree); !is || at != 0 || len(tree.Cuts) != 0 || len(tree.Links) != 0 {
		t.Error(is, at, tree)
	}
}

func TestCentreWrong(t *testing.T) {
	for i, tree := range []api.BlockTree{
		{}, {Links: [][2]int{{0, 0}}}, linked(2, 0), linked(0, 2), linked(1, 1), linked(1, 1, [2]int{0, 0}, [2]int{0, 0}), linked(1, 0, [2]int{0, 0}),
		linked(2, 1, [2]int{0, 0}, [2]int{0, 0}), linked(2, 1, [2]int{0, 0}), linked(2, 1, [2]int{0, 0}, [2]int{2, 0}), linked(2, 1, [2]int{0, 0}, [2]int{1, 1}),
		linked(2, 1, [2]int{0, 0}, [2]int{-1, 0}), linked(2, 1, [2]int{0, 0}, [2]int{1, -1}), linked(2, 2, [2]int{0, 0}, [2]int{0, 1}, [2]int{math.MaxInt, math.MinInt}),
		linked(3, 2, [2]int{0, 0}, [2]int{0, 1}, [2]int{1, 0}, [2]int{1, 1}), linked(2, 2, [2]int{0, 0}, [2]int{0, 1}, [2]int{1, 0}, [2]int{1, 1}),
	} {
		if is, at := blocks.Centre(tree); is || at != -1 {
			t.Error(i, is, at)
		}
	}
}

func TestCentreOfAny(t *testing.T) {
	for i, x := range []struct {
		tree api.BlockTree
		is   bool
		at   int
	}{
		{linked(1, 0), true, 0}, {linked(0, 1), false, 0}, {linked(1, 1, [2]int{0, 0}), true, 0}, {linked(1, 3, [2]int{0, 2}, [2]int{0, 0}, [2]int{0, 1}), true, 0},
		{linked(3, 1, [2]int{2, 0}, [2]int{0, 0}, [2]int{1, 0}), false, 0}, {linked(2, 2, [2]int{1, 1}, [2]int{0, 1}, [2]int{0, 0}), true, 0}, {linked(2, 2, [2]int{0, 0}, [2]int{1, 0}, [2]int{1, 1}), true, 1},
	} {
		if is, at := blocks.Centre(x.tree); is != x.is || at != x.at {
			t.Error(i, is, at)
		}
	}
}

// depths is how deep each node is, blocks ahead of cut vertices.
func depths(tree api.BlockTree) []int {
	n := len(tree.Blocks) + len(tree.Cuts)
	var edges [][2]int
	for _, l := range tree.Links {
		edges = append(edges, [2]int{l[0], len(tree.Blocks) + l[1]})
	}
	out := make([]int, n)
	for from := range n {
		away := slices.Repeat([]int{-1}, n)
		away[from] = 0
		for range n {
			for _, e := range edges {
				for i := range 2 {
					if away[e[i]] >= 0 && away[e[1-i]] < 0 {
						away[e[1-i]] = away[e[i]] + 1
					}
				}
			}
		}
		out[from] = slices.Max(away)
	}
	return out
}

// connected are connected graphs of many shapes.
func connected() []api.Graph {
	var d samples.Dice
	out := []api.Graph{samples.Petersen(), samples.Star(6), samples.Path(2), samples.Path(8), samples.Path(9), example()}
	for n := 2; n <= 40; n++ {
		tree := d.Tree(n)
		extra := d.Any(n, d.Roll(4))
		out = append(out, tree, samples.Of(n, append(extra.Edges, tree.Edges...)...))
	}
	return out
}

func TestTreeAndCentre(t *testing.T) {
	for _, g := range connected() {
		tree, e := blocks.Tree(g)
		b, _ := low.Blocks(g)
		c, _ := low.Cuts(g)
		if e != api.OK || !reflect.DeepEqual(tree.Blocks, b) || !slices.Equal(tree.Cuts, c) || len(tree.Links) != len(b)+len(c)-1 {
			t.Error(g, tree, e)
		}
		for i, l := range tree.Links {
			in := slices.ContainsFunc(b[l[0]], func(x [2]int) bool { return x[0] == c[l[1]] || x[1] == c[l[1]] })
			if !in || i > 0 && slices.Compare(tree.Links[i-1][:], l[:]) >= 0 {
				t.Error(g, tree.Links)
			}
		}
		is, at := blocks.Centre(tree)
		place := at
		if !is {
			place += len(b)
		}
		all := depths(tree)
		for i, n := range all {
			if n < all[place] || n == all[place] && i < place {
				t.Error(g, is, at, all)
			}
		}
	}
}

func TestCalledAnew(t *testing.T) {
	var d samples.Dice
	for _, g := range connected() {
		p := d.Perm(g.N)
		mine, _ := blocks.Tree(g)
		other, _ := blocks.Tree(samples.Called(g, p))
		is, at := blocks.Centre(mine)
		was, there := blocks.Centre(other)
		if is != was {
			t.Fatal(g, is, was)
		}
		if !is && p[mine.Cuts[at]] != other.Cuts[there] {
			t.Error(g, at, there)
		}
		if is && !slices.Equal(samples.Called(api.Graph{N: g.N, Edges: mine.Blocks[at]}, p).Edges, other.Blocks[there]) {
			t.Error(g, at, there)
		}
	}
}

func TestLongRow(t *testing.T) {
	const n = 50000
	var links [][2]int
	for i := range n {
		links = append(links, [2]int{i, i}, [2]int{i + 1, i})
	}
	if is, at := blocks.Centre(linked(n+1, n, links...)); !is || at != n/2 {
		t.Error(is, at)
	}
}
