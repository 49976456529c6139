package part

import (
	"cmp"
	"slices"

	"fretwork/api"
	"fretwork/embed"
	"fretwork/fours"
	"fretwork/links"
	"fretwork/rigid"
)

// suit is a dress that is no bond, its vertices, which are numbered from 0 on by their places there, its edges between these numbers, and its skin.
type suit struct {
	api.Dress
	verts []int
	edges [][2]int
	skin  api.Skin
}

// sewn makes a suit of a right dress.
func sewn(d api.Dress) (suit, api.Errno) {
	s := suit{Dress: d, verts: links.Verts(d.Part.Links)}
	for _, x := range d.Part.Links {
		a, _ := slices.BinarySearch(s.verts, x.A)
		b, _ := slices.BinarySearch(s.verts, x.B)
		s.edges = append(s.edges, [2]int{a, b})
	}
	r, ok := s.circles()
	if !ok {
		return suit{}, api.ErrPlane
	}
	colours := map[[2]int][]byte{}
	for i, e := range s.edges {
		colours[e] = fours.Put(nil, d.Side[i][0])
		colours[[2]int{e[1], e[0]}] = fours.Put(nil, d.Side[i][1])
	}
	s.skin = api.Skin{Rot: r, Vert: make([][]byte, len(r)), Dart: make([][][]byte, len(r))}
	for v, circle := range r {
		s.skin.Vert[v] = fours.Put(nil, d.Vert[v])
		for _, w := range circle {
			s.skin.Dart[v] = append(s.skin.Dart[v], colours[[2]int{v, w}])
		}
	}
	return s, api.OK
}

// circles is the circles of the part; false, if there are none.
func (s suit) circles() (api.Rot, bool) {
	if s.Part.Kind == api.KindR {
		r, e := embed.Embed(api.Graph{N: len(s.verts), Edges: s.edges})
		return r, e == api.OK
	}
	r := make(api.Rot, len(s.verts))
	for _, e := range s.edges {
		r[e[0]], r[e[1]] = append(r[e[0]], e[1]), append(r[e[1]], e[0])
	}
	for _, two := range r {
		slices.Sort(two)
	}
	return r, true
}

// from is the look from the k-th link.
func (s suit) from(k int, there bool) api.Seen {
	from := gone(s.edges[k], there)
	at := slices.Index(s.skin.Rot[from[0]], from[1])
	walks, _ := rigid.From(s.skin, from[0], at)
	return s.seen(walks[0])
}

// best is one of the least looks.
func (s suit) best() api.Seen {
	walks, _ := rigid.Best(s.skin)
	return s.seen(walks[0])
}

// seen is the look that a walk has.
func (s suit) seen(w api.Walked) api.Seen {
	out := api.Seen{Code: append(fours.Put(nil, s.Part.Kind), w.Code...)}
	place := make([]int, len(s.verts))
	for i, v := range w.Order {
		place[v] = i
		out.Verts = append(out.Verts, s.verts[v])
	}
	// The ends of a link by their places, the one that comes first ahead.
	ends := func(i int) [2]int {
		a, b := place[s.edges[i][0]], place[s.edges[i][1]]
		return [2]int{min(a, b), max(a, b)}
	}
	for i := range s.edges {
		out.Links = append(out.Links, i)
	}
	slices.SortFunc(out.Links, func(i, j int) int {
		a, b := ends(i), ends(j)
		return cmp.Or(cmp.Compare(a[0], b[0]), cmp.Compare(a[1], b[1]))
	})
	for _, i := range out.Links {
		out.There = append(out.There, place[s.edges[i][0]] < place[s.edges[i][1]])
	}
	return out
}
