package spqr_test

import (
	"cmp"
	"reflect"
	"slices"
	"testing"
	"time"

	"fretwork/api"
	"fretwork/links"
	"fretwork/pair"
	"fretwork/samples"
	"fretwork/split"
	"fretwork/spqr"
)

func link(a, b, v int) api.Link { return api.Link{A: a, B: b, V: v} }

// bond are two triangles on a link 0 1: a bond, and both.
func bond() []api.Part {
	return []api.Part{
		{Kind: api.KindP, Links: []api.Link{link(0, 1, 0), link(0, 1, 1), link(0, 1, 2)}},
		{Kind: api.KindS, Links: []api.Link{link(0, 1, 1), link(0, 2, 0), link(1, 2, 0)}},
		{Kind: api.KindS, Links: []api.Link{link(0, 1, 2), link(0, 3, 0), link(1, 3, 0)}},
	}
}

func TestKind(t *testing.T) {
	for i, x := range []struct {
		l    []api.Link
		want int
	}{
		{nil, 0}, {samples.Links(samples.Path(2)), 0}, {[]api.Link{link(0, 1, 0), link(0, 1, 1)}, 0}, {[]api.Link{link(0, 1, 0), link(0, 1, 1), link(0, 1, 2)}, api.KindP}, {[]api.Link{link(0, 1, 1), link(0, 1, 0), link(0, 1, 2)}, 0},
		{samples.Links(samples.Ring(3)), api.KindS}, {samples.Links(samples.Ring(9)), api.KindS}, {samples.Links(samples.Complete(4)), api.KindR}, {samples.Links(samples.Petersen()), api.KindR}, {samples.Links(samples.Complete(20)), api.KindR},
		{samples.Links(samples.Path(4)), 0}, {samples.Links(samples.Beside(samples.Ring(3), samples.Ring(3))), 0}, {samples.Links(samples.Star(3)), 0}, {samples.Links(samples.Bipartite(2, 3)), 0}, {samples.Links(samples.Bipartite(3, 3)), api.KindR},
		{[]api.Link{link(0, 1, 0), link(0, 1, 1), link(0, 2, 0), link(1, 2, 0)}, 0}, {links.Sorted(append(samples.Links(samples.Complete(4)), link(0, 1, 1))), 0}, {[]api.Link{link(0, 1, 4), link(0, 2, 0), link(1, 2, 3)}, api.KindS},
		{samples.Links(samples.Prism(3)), api.KindR}, {samples.Links(samples.Wheel(50)), api.KindR}, {samples.Links(samples.Grid(3, 3)), 0},
	} {
		if k := spqr.Kind(x.l); k != x.want {
			t.Error(i, k)
		}
	}
}

func TestExamples(t *testing.T) {
	p, e := spqr.Tree(samples.Links(samples.Ring(4)))
	if e != api.OK || len(p) != 1 || p[0].Kind != api.KindS || !slices.Equal(p[0].Links, samples.Links(samples.Ring(4))) || !slices.Equal(spqr.Centre(p), []int{0}) {
		t.Error(p, e)
	}
	p, e = spqr.Tree(samples.Links(samples.Complete(4)))
	if e != api.OK || len(p) != 1 || p[0].Kind != api.KindR {
		t.Error(p, e)
	}
	p, e = spqr.Tree(links.Sorted([]api.Link{link(0, 1, 0), link(0, 2, 0), link(1, 2, 0), link(0, 3, 0), link(1, 3, 0)}))
	if e != api.OK || len(p) != 3 || p[0].Kind != api.KindP || len(p[0].Links) != 3 || !slices.Equal(spqr.Centre(p), []int{0}) || !slices.Equal(spqr.Beside(p, 0), []int{1, 2}) || !slices.Equal(spqr.Beside(p, 2), []int{0}) {
		t.Error(p, e)
	}
}

func TestTreeWrong(t *testing.T) {
	for i, l := range [][]api.Link{
		nil, {link(0, 1, 0)}, {link(0, 1, 0), link(0, 1, 1)}, samples.Links(samples.Path(3)), samples.Links(samples.Star(4)), {link(0, 2, 0), link(0, 1, 0), link(1, 2, 0)}, {link(0, 1, 1), link(0, 2, 0), link(1, 2, 0)},
		samples.Links(samples.Beside(samples.Ring(3), samples.Ring(3))), {link(1, 0, 0)},
	} {
		if p, e := spqr.Tree(l); e != api.ErrParts || p != nil {
			t.Error(i, p, e)
		}
	}
}

func TestRightWrong(t *testing.T) {
	if !spqr.Right(bond()) || !slices.Equal(spqr.Whole(bond()), []api.Link{link(0, 1, 0), link(0, 2, 0), link(0, 3, 0), link(1, 2, 0), link(1, 3, 0)}) {
		t.Error("the bond is wrong")
	}
	for i, p := range wrongs() {
		if spqr.Right(p) || spqr.Whole(p) != nil || spqr.Beside(p, 0) != nil || spqr.Centre(p) != nil {
			t.Error(i, p)
		}
	}
	for _, i := range []int{-1, 3} {
		if b := spqr.Beside(bond(), i); b != nil {
			t.Error(i, b)
		}
	}
}

// wrongs are some that are no right parts.
func wrongs() [][]api.Part {
	s := func(l ...api.Link) api.Part { return api.Part{Kind: api.KindS, Links: l} }
	p := func(l ...api.Link) api.Part { return api.Part{Kind: api.KindP, Links: l} }
	b := bond()
	kind := bond()
	kind[1].Kind = api.KindR
	none := bond()
	none[1].Kind = 0
	thrice := []api.Part{s(link(0, 1, 1), link(0, 2, 0), link(1, 2, 0)), s(link(0, 1, 1), link(0, 3, 0), link(1, 3, 0)), s(link(0, 1, 1), link(0, 4, 0), link(1, 4, 0))}
	return [][]api.Part{
		nil, {}, b[:2], b[1:], kind, none, {b[1], b[0], b[2]}, {b[0], b[2], b[1]}, {{}}, {{Kind: 0, Links: []api.Link{link(0, 1, 0)}}},
		{s(link(0, 1, 1), link(0, 2, 0), link(1, 2, 0)), s(link(0, 1, 1), link(0, 3, 0), link(1, 3, 0))},
		{p(link(0, 1, 0), link(0, 1, 1), link(0, 1, 2)), p(link(0, 1, 1), link(0, 1, 3), link(0, 1, 4))},
		{s(link(0, 1, 0), link(0, 2, 0), link(1, 2, 0)), s(link(3, 4, 0), link(3, 5, 0), link(4, 5, 0))},
		{p(link(0, 1, 0), link(0, 1, 1), link(0, 1, 2)), s(link(0, 1, 1), link(0, 2, 0), link(1, 2, 0)), s(link(0, 2, 0), link(0, 3, 2), link(2, 3, 0))},
		{p(link(0, 1, 0), link(0, 1, 1), link(0, 1, 2)), s(link(0, 1, 1), link(0, 1, 2), link(1, 2, 0))}, thrice,
		{p(link(0, 1, 0), link(0, 1, 1), link(0, 1, 2)), s(link(0, 1, 1), link(0, 2, 0), link(1, 2, 0)), s(link(0, 1, 2), link(0, 2, 0), link(1, 2, 0))},
		{p(link(0, 1, 0), link(0, 1, 1), link(0, 1, 2)), s(link(0, 1, 1), link(0, 2, 0), link(1, 2, 2))},
		{s(link(1, 0, 0), link(0, 2, 0), link(1, 2, 0))},
	}
}

// told is parts without their numbers: of each its kind and links, those of numbers all alike, in order.
func told(parts []api.Part, called []int) [][]int {
	var out [][]int
	for _, p := range parts {
		var l []api.Link
		for _, x := range p.Links {
			l = append(l, link(called[x.A], called[x.B], min(x.V, 1)))
		}
		row := []int{p.Kind}
		for _, x := range links.Sorted(l) {
			row = append(row, x.A, x.B, x.V)
		}
		out = append(out, row)
	}
	slices.SortFunc(out, slices.Compare)
	return out
}

func identity(n int) []int {
	p := make([]int, n)
	for i := range p {
		p[i] = i
	}
	return p
}

// plainMerge joins same parts as the chapter words it.
func plainMerge(pieces [][]api.Link) []api.Part {
	for i := range pieces {
		for j := range pieces {
			k := spqr.Kind(pieces[i])
			if i >= j || k == api.KindR || k != spqr.Kind(pieces[j]) {
				continue
			}
			for _, x := range pieces[i] {
				if x.V > 0 && slices.Contains(pieces[j], x) {
					l, _ := split.Join(pieces[i], pieces[j], x.V)
					rest := append([][]api.Link{l}, pieces[:i]...)
					rest = append(rest, pieces[i+1:j]...)
					return plainMerge(append(rest, pieces[j+1:]...))
				}
			}
		}
	}
	var out []api.Part
	for _, l := range pieces {
		out = append(out, api.Part{Kind: spqr.Kind(l), Links: l})
	}
	slices.SortFunc(out, func(a, b api.Part) int {
		return slices.CompareFunc(a.Links, b.Links, func(x, y api.Link) int {
			return cmp.Or(x.A-y.A, x.B-y.B, x.V-y.V)
		})
	})
	return out
}

func TestTree(t *testing.T) {
	var d samples.Dice
	kinds := map[int]int{}
	for range 400 {
		g := d.Strung(3 + d.Roll(25))
		l := samples.Links(g)
		p, e := spqr.Tree(l)
		if e != api.OK || !spqr.Right(p) || !slices.Equal(spqr.Whole(p), l) {
			t.Fatal(l, p, e)
		}
		pieces, _, _ := split.Split(l, 1)
		if want := plainMerge(pieces); !reflect.DeepEqual(p, want) {
			t.Fatal(l, p, want)
		}
		for i, x := range p {
			kinds[x.Kind]++
			for _, j := range spqr.Beside(p, i) {
				if !slices.Contains(spqr.Beside(p, j), i) {
					t.Error(l, i, j)
				}
			}
		}
		called := d.Perm(g.N)
		h := samples.Called(g, called)
		if q, _ := spqr.Tree(samples.Links(h)); !reflect.DeepEqual(told(p, called), told(q, identity(g.N))) {
			t.Fatal(g, called)
		}
	}
	if kinds[api.KindS] < 100 || kinds[api.KindP] < 100 || kinds[api.KindR] < 100 {
		t.Error(kinds)
	}
}

func TestCentre(t *testing.T) {
	var d samples.Dice
	sizes := map[int]int{}
	for range 300 {
		p, _ := spqr.Tree(samples.Links(d.Strung(3 + d.Roll(30))))
		var depths []int
		for i := range p {
			depths = append(depths, deepest(p, i, -1))
		}
		var want []int
		for i, n := range depths {
			if n == slices.Min(depths) {
				want = append(want, i)
			}
		}
		c := spqr.Centre(p)
		sizes[len(c)]++
		if !slices.Equal(c, want) {
			t.Error(p, c, want)
		}
	}
	if sizes[1] == 0 || sizes[2] == 0 {
		t.Error(sizes)
	}
}

// deepest is how far the farthest part is from one.
func deepest(p []api.Part, i, from int) int {
	out := 0
	for _, j := range spqr.Beside(p, i) {
		if j != from {
			out = max(out, 1+deepest(p, j, i))
		}
	}
	return out
}

func TestPartsAreNotParted(t *testing.T) {
	var d samples.Dice
	for range 50 {
		p, _ := spqr.Tree(samples.Links(d.Planar(30, 60)))
		for _, x := range p {
			if _, _, parts, e := pair.First(x.Links); x.Kind == api.KindR && (parts || e != api.OK) {
				t.Error(x)
			}
		}
	}
}

func TestLarge(t *testing.T) {
	begin := time.Now()
	for _, g := range []api.Graph{samples.Ring(1000), samples.Bipartite(2, 500), samples.Grid(22, 22), samples.Prism(333), samples.Complete(45)} {
		p, e := spqr.Tree(samples.Links(g))
		if e != api.OK || !spqr.Right(p) || len(spqr.Whole(p)) != len(g.Edges) {
			t.Error(g.N, len(p), e)
		}
	}
	if took := time.Since(begin); took > 60*time.Second {
		t.Error(took)
	}
}
