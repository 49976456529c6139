package samples

import "fretwork/api"

// Tree answers a tree of n vertices.
func (d *Dice) Tree(n int) api.Graph {
	var edges [][2]int
	for v := 1; v < n; v++ {
		edges = append(edges, [2]int{d.Roll(v), v})
	}
	return Called(Of(n, edges...), d.Perm(n))
}

// Any answers a graph of n vertices, and at most m edges.
func (d *Dice) Any(n, m int) api.Graph {
	var edges [][2]int
	for range m {
		edges = append(edges, [2]int{d.Roll(n), d.Roll(n)})
	}
	return Of(n, edges...)
}

// Thinned answers g without some of its edges, so that m are left at most.
func (d *Dice) Thinned(g api.Graph, m int) api.Graph {
	p := d.Perm(len(g.Edges))
	var edges [][2]int
	for i, e := range g.Edges {
		if p[i] < m {
			edges = append(edges, e)
		}
	}
	return Of(g.N, edges...)
}

// Triangles answers a planar graph of n vertices, three or more, all of whose faces are triangles: vertices are laid into faces, and then edges are turned within the two faces beside them.
func (d *Dice) Triangles(n int) api.Graph {
	faces := [][3]int{{0, 1, 2}, {0, 2, 1}}
	for v := 3; v < n; v++ {
		i := d.Roll(len(faces))
		f := faces[i]
		faces[i] = [3]int{f[0], f[1], v}
		faces = append(faces, [3]int{f[1], f[2], v}, [3]int{f[2], f[0], v})
	}
	for range 3 * n {
		d.turn(faces)
	}
	var edges [][2]int
	for _, f := range faces {
		edges = append(edges, [2]int{f[0], f[1]}, [2]int{f[1], f[2]}, [2]int{f[2], f[0]})
	}
	return Called(Of(n, edges...), d.Perm(n))
}

// turn takes the edge between two faces out, and lays the other one across, unless that is there already.
func (d *Dice) turn(faces [][3]int) {
	i := d.Roll(len(faces))
	r := d.Roll(3)
	a, b, c := faces[i][r], faces[i][(r+1)%3], faces[i][(r+2)%3]
	for j, f := range faces {
		for k := range 3 {
			if f[k] != b || f[(k+1)%3] != a {
				continue
			}
			x := f[(k+2)%3]
			if x == c || joined(faces, x, c) {
				return
			}
			faces[i], faces[j] = [3]int{a, x, c}, [3]int{x, b, c}
			return
		}
	}
}

func joined(faces [][3]int, a, b int) bool {
	for _, f := range faces {
		for k := range 3 {
			if f[k] == a && (f[(k+1)%3] == b || f[(k+2)%3] == b) {
				return true
			}
		}
	}
	return false
}

// Planar answers a planar graph of n vertices, three or more, and at most m edges.
func (d *Dice) Planar(n, m int) api.Graph {
	return d.Thinned(d.Triangles(n), m)
}

// Strung answers a two-connected graph of at most n vertices that is made of few parts that no pair of vertices parts: an edge of it is time and again doubled, laid through a new vertex, or made four vertices each beside each.
func (d *Dice) Strung(n int) api.Graph {
	edges := [][2]int{{0, 1}, {1, 2}, {0, 2}}
	size := 3
	for size < n {
		e := edges[d.Roll(len(edges))]
		i := d.Roll(len(edges))
		switch d.Roll(3) {
		case 0:
			edges = append(edges, [2]int{e[0], size}, [2]int{size, e[1]})
			size++
		case 1:
			edges = append(edges, [2]int{edges[i][1], size})
			edges[i] = [2]int{edges[i][0], size}
			size++
		default:
			if size+2 > n {
				return Called(Of(size, edges...), d.Perm(size))
			}
			edges = append(edges, [2]int{e[0], size}, [2]int{e[1], size}, [2]int{e[0], size + 1}, [2]int{e[1], size + 1}, [2]int{size, size + 1})
			size += 2
		}
	}
	return Called(Of(size, edges...), d.Perm(size))
}
