package samples

import (
	"cmp"
	"slices"

	"fretwork/api"
)

// Of answers the graph of n vertices that has these edges, either way round and in any order; an edge that is there twice counts once, and a loop not at all.
func Of(n int, edges ...[2]int) api.Graph {
	g := api.Graph{N: n}
	for _, e := range edges {
		if e[0] != e[1] {
			g.Edges = append(g.Edges, [2]int{min(e[0], e[1]), max(e[0], e[1])})
		}
	}
	slices.SortFunc(g.Edges, func(a, b [2]int) int {
		return cmp.Or(cmp.Compare(a[0], b[0]), cmp.Compare(a[1], b[1]))
	})
	g.Edges = slices.Compact(g.Edges)
	return g
}

// Path answers n vertices in a row.
func Path(n int) api.Graph {
	var edges [][2]int
	for i := 1; i < n; i++ {
		edges = append(edges, [2]int{i - 1, i})
	}
	return Of(n, edges...)
}

// Ring answers n vertices in a circle.
func Ring(n int) api.Graph {
	return Of(n, append(Path(n).Edges, [2]int{0, n - 1})...)
}

// Star answers one vertex with n beside it.
func Star(n int) api.Graph {
	return Bipartite(1, n)
}

// Wheel answers a ring of n vertices, and one more in its middle.
func Wheel(n int) api.Graph {
	edges := Ring(n).Edges
	for i := range n {
		edges = append(edges, [2]int{i, n})
	}
	return Of(n+1, edges...)
}

// Complete answers n vertices each beside each.
func Complete(n int) api.Graph {
	var edges [][2]int
	for a := range n {
		for b := range a {
			edges = append(edges, [2]int{b, a})
		}
	}
	return Of(n, edges...)
}

// Bipartite answers a vertices, each beside each of b others.
func Bipartite(a, b int) api.Graph {
	var edges [][2]int
	for i := range a {
		for j := range b {
			edges = append(edges, [2]int{i, a + j})
		}
	}
	return Of(a+b, edges...)
}

// Grid answers w times h vertices in rows.
func Grid(w, h int) api.Graph {
	var edges [][2]int
	for v := range w * h {
		if v%w > 0 {
			edges = append(edges, [2]int{v - 1, v})
		}
		if v >= w {
			edges = append(edges, [2]int{v - w, v})
		}
	}
	return Of(w*h, edges...)
}

// Prism answers two rings of n vertices, each vertex of the one beside one of the other; four make a cube.
func Prism(n int) api.Graph {
	var edges [][2]int
	for i := range n {
		j := (i + 1) % n
		edges = append(edges, [2]int{i, j}, [2]int{n + i, n + j}, [2]int{i, n + i})
	}
	return Of(2*n, edges...)
}

// Petersen answers Petersen's graph.
func Petersen() api.Graph {
	var edges [][2]int
	for i := range 5 {
		edges = append(edges, [2]int{i, (i + 1) % 5}, [2]int{5 + i, 5 + (i+2)%5}, [2]int{i, 5 + i})
	}
	return Of(10, edges...)
}

// Beside answers graphs side by side.
func Beside(l ...api.Graph) api.Graph {
	n := 0
	var edges [][2]int
	for _, g := range l {
		for _, e := range g.Edges {
			edges = append(edges, [2]int{n + e[0], n + e[1]})
		}
		n += g.N
	}
	return Of(n, edges...)
}

// Called answers g, its vertex v called p[v].
func Called(g api.Graph, p []int) api.Graph {
	var edges [][2]int
	for _, e := range g.Edges {
		edges = append(edges, [2]int{p[e[0]], p[e[1]]})
	}
	return Of(g.N, edges...)
}

// Subdivided answers g with a vertex upon each edge.
func Subdivided(g api.Graph) api.Graph {
	var edges [][2]int
	for i, e := range g.Edges {
		edges = append(edges, [2]int{e[0], g.N + i}, [2]int{e[1], g.N + i})
	}
	return Of(g.N+len(g.Edges), edges...)
}

// Same tells whether two graphs are the same, names and all.
func Same(g, h api.Graph) bool {
	return g.N == h.N && slices.Equal(g.Edges, h.Edges)
}

// Mapped tells, by trying all of them, whether there is a map of g to h; both are small.
func Mapped(g, h api.Graph) bool {
	return g.N == h.N && len(g.Edges) == len(h.Edges) && len(Maps(g, h, 1)) > 0
}

// Maps answers maps of g to h, but no more than most of them, by trying all.
func Maps(g, h api.Graph, most int) [][]int {
	mine, other := matrix(g), matrix(h)
	var out [][]int
	var p []int
	used := make([]int, h.N)
	var try func()
	try = func() {
		if len(p) == g.N {
			out = append(out, slices.Clone(p))
			return
		}
		v := len(p)
		for w := range h.N {
			fits := used[w] == 0
			for u := range v {
				fits = fits && mine[v][u] == other[w][p[u]]
			}
			if !fits || len(out) >= most {
				continue
			}
			used[w], p = 1, append(p, w)
			try()
			used[w], p = 0, p[:v]
		}
	}
	if g.N == h.N && len(g.Edges) == len(h.Edges) {
		try()
	}
	return out
}

func matrix(g api.Graph) [][]int {
	out := make([][]int, g.N)
	for v := range out {
		out[v] = make([]int, g.N)
	}
	for _, e := range g.Edges {
		out[e[0]][e[1]], out[e[1]][e[0]] = 1, 1
	}
	return out
}
