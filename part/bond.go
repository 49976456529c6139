package part

import (
	"cmp"
	"slices"

	"fretwork/api"
	"fretwork/fours"
)

// bond is the look of a bond from its k-th link.
func bond(d api.Dress, k int, there bool) api.Seen {
	out := api.Seen{Links: []int{k}}
	for _, i := range ordered(d.Side, there) {
		if i != k {
			out.Links = append(out.Links, i)
		}
	}
	first := d.Part.Links[k]
	out.Verts = []int{first.A, first.B}
	colours := [2]int{d.Vert[0], d.Vert[1]}
	if !there {
		slices.Reverse(out.Verts)
	}
	colours = gone(colours, there)
	out.Code = fours.Put(nil, d.Part.Kind)
	for _, n := range [...]int{colours[0], colours[1], len(d.Side)} {
		out.Code = fours.Put(out.Code, n)
	}
	for _, i := range out.Links {
		c := gone(d.Side[i], there)
		out.Code = fours.Put(fours.Put(out.Code, c[0]), c[1])
		out.There = append(out.There, there)
	}
	return out
}

// ordered is the places of links, all gone the same way: the lesser first colour first, then the lesser second one, then the lesser place.
func ordered(side [][2]int, there bool) []int {
	out := make([]int, len(side))
	for i := range out {
		out[i] = i
	}
	slices.SortFunc(out, func(i, j int) int {
		a, b := gone(side[i], there), gone(side[j], there)
		return cmp.Or(cmp.Compare(a[0], b[0]), cmp.Compare(a[1], b[1]), cmp.Compare(i, j))
	})
	return out
}
