package samples

import "fretwork/api"

// Numbers answers numbers as four bytes each, the highest first.
func Numbers(ns ...int) []byte {
	var out []byte
	for _, n := range ns {
		out = append(out, byte(n>>24), byte(n>>16), byte(n>>8), byte(n))
	}
	return out
}

// Tints answers n tints below most.
func (d *Dice) Tints(n, most int) []int {
	out := make([]int, n)
	for i := range out {
		out[i] = d.Roll(most)
	}
	return out
}

// TintedCalled answers a graph and its tints, its vertex v called p[v].
func TintedCalled(g api.Graph, tints, p []int) (api.Graph, []int) {
	out := make([]int, g.N)
	for v, c := range tints {
		out[p[v]] = c
	}
	return Called(g, p), out
}

// TintedMapped tells, by trying all of them, whether there is a map of g to h that keeps tints; both are small.
func TintedMapped(g api.Graph, tints []int, h api.Graph, others []int) bool {
	for _, p := range Maps(g, h, 1<<30) {
		keeps := true
		for v, w := range p {
			keeps = keeps && tints[v] == others[w]
		}
		if keeps {
			return true
		}
	}
	return false
}

// Links answers a graph's edges as real links.
func Links(g api.Graph) []api.Link {
	var out []api.Link
	for _, e := range g.Edges {
		out = append(out, api.Link{A: e[0], B: e[1]})
	}
	return out
}
