package part_test

import (
	"bytes"
	"math"
	"reflect"
	"slices"
	"testing"

	"fretwork/api"
	"fretwork/links"
	"fretwork/part"
	"fretwork/rigid"
	"fretwork/samples"
	"fretwork/spqr"
)

func link(a, b, v int) api.Link { return api.Link{A: a, B: b, V: v} }

// bare is a part of links without colours.
func bare(l []api.Link) api.Dress {
	return api.Dress{Part: api.Part{Kind: spqr.Kind(l), Links: l}, Vert: make([]int, len(links.Verts(l))), Side: make([][2]int, len(l))}
}

// real is a graph without colours, its vertices called three times as high, from 5 on; each second link virtual.
func real(g api.Graph) api.Dress {
	var l []api.Link
	for i, e := range g.Edges {
		l = append(l, link(3*e[0]+5, 3*e[1]+5, i%2*i))
	}
	return bare(l)
}

// side is n links side by side.
func side(n int) api.Dress {
	var l []api.Link
	for i := range n {
		l = append(l, link(4, 9, i))
	}
	return bare(l)
}

// coloured gives few colours, by chance.
func coloured(d *samples.Dice, x api.Dress, n int) api.Dress {
	for i := range x.Vert {
		x.Vert[i] = d.Roll(n)
	}
	for i := range x.Side {
		x.Side[i] = [2]int{d.Roll(n), d.Roll(n)}
	}
	return x
}

func zero(s api.Seen) bool {
	return s.Code == nil && s.Verts == nil && s.Links == nil && s.There == nil
}

func TestRight(t *testing.T) {
	for i, x := range []api.Dress{side(3), side(1000), real(samples.Ring(3)), real(samples.Ring(200)), real(samples.Complete(4)), real(samples.Petersen())} {
		if !part.Right(x) {
			t.Error(i)
		}
	}
	a, b, c, d, e, f := side(3), side(3), real(samples.Ring(4)), side(3), side(3), real(samples.Ring(4))
	a.Vert[0], b.Side[1][1], c.Part.Kind, d.Vert, e.Side = -1, api.MaxTint, api.KindP, d.Vert[1:], e.Side[1:]
	f.Vert[2] = math.MaxInt
	for i, x := range []api.Dress{{}, a, b, c, d, e, f, side(2), real(samples.Path(3)), real(samples.Ring(201)), real(samples.Grid(3, 3)), {Vert: make([]int, 2)}} {
		s, g := part.From(x, 0, true)
		u, h := part.Best(x)
		if part.Right(x) || g != api.ErrDress || h != api.ErrDress || !zero(s) || !zero(u) {
			t.Error(i, g, h)
		}
	}
	for _, k := range []int{-1, 3, math.MinInt, math.MaxInt} {
		if s, e := part.From(side(3), k, false); e != api.ErrDress || !zero(s) {
			t.Error(k, e)
		}
	}
	for i, x := range []api.Dress{real(samples.Complete(5)), real(samples.Petersen()), real(samples.Complete(40)), real(samples.Bipartite(3, 3))} {
		s, g := part.From(x, 0, true)
		u, h := part.Best(x)
		if g != api.ErrPlane || h != api.ErrPlane || !zero(s) || !zero(u) {
			t.Error(i, g, h)
		}
	}
	if _, e := part.From(real(samples.Complete(5)), 10, true); e != api.ErrDress {
		t.Error(e)
	}
}

func TestBond(t *testing.T) {
	x := side(3)
	x.Vert, x.Side = []int{0, 7}, [][2]int{{5, 5}, {1, 2}, {1, 1}}
	s, e := part.From(x, 0, true)
	want := api.Seen{Code: samples.Numbers(2, 0, 7, 3, 5, 5, 1, 1, 1, 2), Verts: []int{4, 9}, Links: []int{0, 2, 1}, There: []bool{true, true, true}}
	if e != api.OK || !reflect.DeepEqual(s, want) {
		t.Error(s, e)
	}
	s, e = part.From(x, 0, false)
	want = api.Seen{Code: samples.Numbers(2, 7, 0, 3, 5, 5, 1, 1, 2, 1), Verts: []int{9, 4}, Links: []int{0, 2, 1}, There: []bool{false, false, false}}
	if e != api.OK || !reflect.DeepEqual(s, want) {
		t.Error(s, e)
	}
	x.Side = [][2]int{{2, 1}, {0, 3}, {2, 1}}
	if s, _ := part.From(x, 1, true); !slices.Equal(s.Links, []int{1, 0, 2}) {
		t.Error(s.Links)
	}
	if s, _ := part.From(x, 2, false); !slices.Equal(s.Links, []int{2, 0, 1}) {
		t.Error(s.Links)
	}
}

func TestExamples(t *testing.T) {
	for _, x := range []struct {
		d    api.Dress
		want int
	}{{real(samples.Ring(3)), 6}, {real(samples.Complete(4)), 12}} {
		codes := map[string]int{}
		for k := range x.d.Side {
			for _, there := range []bool{true, false} {
				s, e := part.From(x.d, k, there)
				if e != api.OK {
					t.Error(e)
				}
				codes[string(s.Code)]++
			}
		}
		if len(codes) != 1 {
			t.Error(codes)
		}
		for _, n := range codes {
			if n != x.want {
				t.Error(n, x.want)
			}
		}
	}
	// A triangle, gone from 1 to 2, its vertices and darts coloured.
	x := bare([]api.Link{link(1, 2, 0), link(1, 5, 0), link(2, 5, 0)})
	x.Vert, x.Side = []int{10, 20, 50}, [][2]int{{12, 21}, {15, 51}, {25, 52}}
	skin := api.Skin{
		Rot:  api.Rot{{1, 2}, {0, 2}, {0, 1}},
		Vert: [][]byte{samples.Numbers(10), samples.Numbers(20), samples.Numbers(50)},
		Dart: [][][]byte{{samples.Numbers(12), samples.Numbers(15)}, {samples.Numbers(21), samples.Numbers(25)}, {samples.Numbers(51), samples.Numbers(52)}},
	}
	w, _ := rigid.From(skin, 0, 0)
	s, e := part.From(x, 0, true)
	want := api.Seen{Code: append(samples.Numbers(api.KindS), w[0].Code...), Verts: []int{1, 2, 5}, Links: []int{0, 1, 2}, There: []bool{true, true, true}}
	if e != api.OK || !reflect.DeepEqual(s, want) {
		t.Error(s, e)
	}
	w, _ = rigid.From(skin, 2, 1)
	s, e = part.From(x, 2, false)
	if e != api.OK || !bytes.Equal(s.Code, append(samples.Numbers(api.KindS), w[0].Code...)) || !slices.Equal(s.Verts[:1], []int{5}) || s.There[0] {
		t.Error(s, e)
	}
}

// many are dresses of all kinds, few colours.
func many(d *samples.Dice) []api.Dress {
	var out []api.Dress
	for n := 1; n < 3; n++ {
		for range 6 {
			out = append(out, coloured(d, side(3+d.Roll(3)), n), coloured(d, real(samples.Ring(3+d.Roll(3))), n), coloured(d, real(samples.Complete(4)), n), coloured(d, real(samples.Wheel(4+d.Roll(2))), n), coloured(d, real(samples.Prism(3)), n))
		}
	}
	return append(out, coloured(d, real(samples.Prism(4)), 1), real(samples.Prism(4)))
}

// fits tells whether a map of places of vertices, and of links, goes from one look to another one: ends and colours are kept.
func fits(x, y api.Dress, s, u api.Seen) bool {
	to := map[int]int{}
	xs, ys := links.Verts(x.Part.Links), links.Verts(y.Part.Links)
	for i, v := range s.Verts {
		to[v] = u.Verts[i]
		if x.Vert[slices.Index(xs, v)] != y.Vert[slices.Index(ys, u.Verts[i])] {
			return false
		}
	}
	for i, k := range s.Links {
		j := u.Links[i]
		a, b := x.Part.Links[k], y.Part.Links[j]
		c, e := x.Side[k], y.Side[j]
		if s.There[i] != u.There[i] {
			b.A, b.B = b.B, b.A
			e[0], e[1] = e[1], e[0]
		}
		if to[a.A] != b.A || to[a.B] != b.B || c != e {
			return false
		}
	}
	return true
}

// whole tells whether a look has all vertices and links, once each.
func whole(x api.Dress, s api.Seen) bool {
	v, l := slices.Clone(s.Verts), slices.Clone(s.Links)
	slices.Sort(v)
	slices.Sort(l)
	for i, k := range l {
		if i != k {
			return false
		}
	}
	return slices.Equal(v, links.Verts(x.Part.Links)) && len(l) == len(x.Side) && len(s.There) == len(l)
}

// looks are all looks of a dress.
func looks(t *testing.T, x api.Dress) []api.Seen {
	var out []api.Seen
	for k := range x.Side {
		for _, there := range []bool{true, false} {
			s, e := part.From(x, k, there)
			first := x.Part.Links[k].A
			if !there {
				first = x.Part.Links[k].B
			}
			if e != api.OK || s.Links[0] != k || s.There[0] != there || s.Verts[0] != first || !whole(x, s) {
				t.Fatal(x, k, there, s, e)
			}
			out = append(out, s)
		}
	}
	return out
}

func TestLooks(t *testing.T) {
	var d samples.Dice
	all := many(&d)
	var seen [][]api.Seen
	for _, x := range all {
		l := looks(t, x)
		seen = append(seen, l)
		best, e := part.Best(x)
		least := slices.MinFunc(l, func(a, b api.Seen) int { return bytes.Compare(a.Code, b.Code) })
		if e != api.OK || !bytes.Equal(best.Code, least.Code) || !slices.ContainsFunc(l, func(s api.Seen) bool { return reflect.DeepEqual(s, best) }) {
			t.Error(x, best, e)
		}
	}
	var alike int
	for i, x := range all {
		for j, y := range all {
			for _, s := range seen[i] {
				u := seen[j][0]
				if bytes.Equal(s.Code, u.Code) {
					alike++
					if !fits(x, y, s, u) {
						t.Fatal(x, y, s, u)
					}
				} else if s.Links[0] == u.Links[0] && i == j && len(x.Side) == len(y.Side) && fits(x, y, s, u) {
					t.Fatal(x, s, u)
				}
			}
		}
	}
	if alike < 200 {
		t.Error(alike)
	}
}

// called is a dress whose vertices are called anew, and its links numbered anew.
func called(d *samples.Dice, x api.Dress) api.Dress {
	verts := links.Verts(x.Part.Links)
	p := d.Perm(len(verts))
	name := func(v int) int { return 2*p[slices.Index(verts, v)] + 1 }
	var l []api.Link
	colours := map[api.Link][2]int{}
	for i, k := range d.Perm(len(x.Side)) {
		y, c := x.Part.Links[k], x.Side[k]
		z := link(name(y.A), name(y.B), i)
		if z.A > z.B {
			z.A, z.B, c = z.B, z.A, [2]int{c[1], c[0]}
		}
		l = append(l, z)
		colours[z] = c
	}
	out := bare(links.Sorted(l))
	for i, z := range out.Part.Links {
		out.Side[i] = colours[z]
	}
	for i, v := range verts {
		out.Vert[slices.Index(links.Verts(out.Part.Links), name(v))] = x.Vert[i]
	}
	return out
}

func TestCalledAnew(t *testing.T) {
	var d samples.Dice
	for _, x := range many(&d) {
		y := called(&d, x)
		a, _ := part.Best(x)
		b, e := part.Best(y)
		if e != api.OK || !bytes.Equal(a.Code, b.Code) || !fits(x, y, a, b) {
			t.Error(x, y, e)
		}
		var mine, other []string
		for _, s := range looks(t, x) {
			mine = append(mine, string(s.Code))
		}
		for _, s := range looks(t, y) {
			other = append(other, string(s.Code))
		}
		slices.Sort(mine)
		slices.Sort(other)
		if !slices.Equal(mine, other) {
			t.Error(x, y)
		}
	}
}

func TestLarge(t *testing.T) {
	var d samples.Dice
	for _, x := range []api.Dress{side(1000), real(samples.Ring(200)), real(samples.Prism(100)), real(samples.Wheel(199)), real(samples.Complete(4))} {
		y := called(&d, coloured(&d, x, 3))
		a, e := part.Best(x)
		b, f := part.Best(y)
		if e != api.OK || f != api.OK || !bytes.Equal(a.Code, b.Code) {
			t.Error(len(x.Side), e, f)
		}
	}
}
