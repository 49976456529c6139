package graph

import (
	"fretwork/api"
	"fretwork/strand"
)

// Bytes answers the bytes of g.
func Bytes(g api.Graph) ([]byte, api.Errno) {
	if !Right(g) {
		return nil, api.ErrGraph
	}
	s, _ := knots(api.Strand{}, g.N, len(g.Edges))
	for _, e := range g.Edges {
		// 2 + 2 * MaxM knots of small numbers never come near a strand's limit.
		s, _ = knots(s, e[0], e[1])
	}
	b, _ := strand.Pack(s)
	return b, api.OK
}

// Read answers the right graph whose bytes b are.
func Read(b []byte) (api.Graph, api.Errno) {
	s, e := strand.Unpack(b)
	if e != api.OK {
		return api.Graph{}, api.ErrGraph
	}
	head, at, e := twoKnots(s, 0)
	if e != api.OK || head[0] > api.MaxN || head[1] > api.MaxM {
		return api.Graph{}, api.ErrGraph
	}
	g := api.Graph{N: head[0]}
	for range head[1] {
		var edge [2]int
		edge, at, e = twoKnots(s, at)
		if e != api.OK {
			return api.Graph{}, api.ErrGraph
		}
		g.Edges = append(g.Edges, edge)
	}
	if at != s.Len || !Right(g) {
		return api.Graph{}, api.ErrGraph
	}
	return g, api.OK
}

// knots is s, and the knots of two numbers behind it.
func knots(s api.Strand, a, b int) (api.Strand, api.Errno) {
	s, e := strand.Knot(s, uint64(a))
	if e != api.OK {
		return api.Strand{}, e
	}
	return strand.Knot(s, uint64(b))
}

// twoKnots is what the two knots at a place say, and the place behind them; none of the numbers of a graph is above MaxM.
func twoKnots(s api.Strand, at int) ([2]int, int, api.Errno) {
	var out [2]int
	for i := range out {
		n, to, e := strand.GetKnot(s, at)
		if e != api.OK {
			return [2]int{}, 0, e
		}
		if n > api.MaxM {
			return [2]int{}, 0, api.ErrGraph
		}
		out[i], at = int(n), to
	}
	return out, at, api.OK
}
