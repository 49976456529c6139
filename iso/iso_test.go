package iso_test

import (
	"slices"
	"testing"

	"fretwork/api"
	"fretwork/iso"
	"fretwork/perm"
	"fretwork/samples"
)

// wrong is no right graph.
func wrong() api.Graph { return api.Graph{N: 2, Edges: [][2]int{{1, 0}}} }

func TestErrors(t *testing.T) {
	k5, ring := samples.Complete(5), samples.Ring(5)
	for i, x := range []struct {
		g, h api.Graph
		want api.Errno
	}{
		{wrong(), ring, api.ErrGraph}, {ring, wrong(), api.ErrGraph}, {k5, wrong(), api.ErrGraph}, {wrong(), k5, api.ErrGraph}, {api.Graph{N: 201}, ring, api.ErrGraph}, {ring, api.Graph{N: -1}, api.ErrGraph},
		{k5, ring, api.ErrPlane}, {ring, k5, api.ErrPlane}, {k5, k5, api.ErrPlane}, {samples.Petersen(), api.Graph{}, api.ErrPlane},
		{ring, samples.Ring(6), api.ErrIso}, {samples.Star(3), samples.Path(4), api.ErrIso}, {api.Graph{}, api.Graph{N: 1}, api.ErrIso},
	} {
		if p, e := iso.Map(x.g, x.h); e != x.want || p != nil {
			t.Error(i, p, e)
		}
		if iso.Is(x.g, x.h, perm.Identity(x.g.N)) && x.want != api.ErrPlane {
			t.Error(i)
		}
	}
	if c, e := iso.Classes([]api.Graph{ring, k5, wrong()}); e != api.ErrGraph || c != nil {
		t.Error(c, e)
	}
	if c, e := iso.Classes([]api.Graph{ring, k5, ring}); e != api.ErrPlane || c != nil {
		t.Error(c, e)
	}
	if c, e := iso.Classes(nil); e != api.OK || len(c) != 0 {
		t.Error(c, e)
	}
}

func TestTintedErrors(t *testing.T) {
	k5, path := samples.Complete(5), samples.Path(3)
	none, five := make([]int, 3), make([]int, 5)
	for i, x := range []struct {
		g      api.Graph
		tints  []int
		h      api.Graph
		others []int
		want   api.Errno
	}{
		{path, nil, path, none, api.ErrTints}, {path, none, path, nil, api.ErrTints}, {wrong(), make([]int, 2), path, none, api.ErrTints}, {path, none, path, []int{0, 0, -1}, api.ErrTints}, {k5, five, path, nil, api.ErrTints}, {path, nil, k5, five, api.ErrTints},
		{path, none, path, []int{0, 0, api.MaxTint}, api.ErrTints}, {k5, five, path, none, api.ErrPlane}, {path, none, k5, five, api.ErrPlane}, {path, none, path, []int{0, 0, 1}, api.ErrIso}, {path, []int{0, 1, 0}, path, []int{1, 0, 0}, api.ErrIso},
		{path, none, samples.Ring(3), none, api.ErrIso},
	} {
		if p, e := iso.Tinted(x.g, x.tints, x.h, x.others); e != x.want || p != nil {
			t.Error(i, p, e)
		}
	}
}

func TestExamples(t *testing.T) {
	other := samples.Of(3, [2]int{0, 1}, [2]int{0, 2})
	p, e := iso.Map(samples.Path(3), other)
	if e != api.OK || !slices.Equal(p, []int{1, 0, 2}) && !slices.Equal(p, []int{2, 0, 1}) || !iso.Is(samples.Path(3), other, p) {
		t.Error(p, e)
	}
	if p, e := iso.Tinted(samples.Path(3), []int{1, 0, 2}, samples.Path(3), []int{2, 0, 1}); e != api.OK || !slices.Equal(p, []int{2, 1, 0}) {
		t.Error(p, e)
	}
	if c, e := iso.Classes([]api.Graph{samples.Path(2), {N: 2}, samples.Path(2), {N: 2}}); e != api.OK || !slices.Equal(c, []int{0, 1, 0, 1}) {
		t.Error(c, e)
	}
	if p, e := iso.Map(api.Graph{}, api.Graph{}); e != api.OK || len(p) != 0 || !iso.Is(api.Graph{}, api.Graph{}, nil) {
		t.Error(p, e)
	}
}

func TestIs(t *testing.T) {
	ring, k5 := samples.Ring(4), samples.Complete(5)
	for _, p := range [][]int{{0, 1, 2, 3}, {1, 2, 3, 0}, {0, 3, 2, 1}} {
		if !iso.Is(ring, ring, p) {
			t.Error(p)
		}
	}
	for i, p := range [][]int{nil, {0, 1, 2}, {0, 2, 1, 3}, {0, 1, 2, 2}, {0, 1, 2, 4}, {-1, 1, 2, 3}, {0, 1, 2, 3, 4}} {
		if iso.Is(ring, ring, p) {
			t.Error(i, p)
		}
	}
	// Whether a graph is planar is not asked.
	if !iso.Is(k5, k5, []int{4, 3, 2, 1, 0}) || iso.Is(samples.Path(4), ring, []int{0, 1, 2, 3}) || iso.Is(ring, samples.Path(4), []int{0, 1, 2, 3}) {
		t.Error("is")
	}
	if iso.Is(wrong(), wrong(), []int{0, 1}) || iso.Is(samples.Path(2), wrong(), []int{0, 1}) || iso.Is(wrong(), samples.Path(2), []int{0, 1}) || iso.Is(api.Graph{N: 2}, api.Graph{N: 3}, []int{0, 1}) {
		t.Error("a wrong graph")
	}
}

func TestMap(t *testing.T) {
	var d samples.Dice
	var yes, no int
	for range 600 {
		n := 3 + d.Roll(5)
		m := d.Roll(2 * n)
		g, h := d.Planar(n, m), d.Planar(n, m)
		if d.Roll(3) == 0 {
			h = samples.Called(g, d.Perm(n))
		}
		same := samples.Mapped(g, h)
		p, e := iso.Map(g, h)
		q, f := iso.Map(h, g)
		if same && (e != api.OK || f != api.OK || !iso.Is(g, h, p) || !iso.Is(h, g, q)) || !same && (e != api.ErrIso || f != api.ErrIso || p != nil) {
			t.Fatal(g, h, p, e)
		}
		c, e := iso.Classes([]api.Graph{g, h, g})
		if e != api.OK || c[0] != 0 || c[2] != 0 || same && c[1] != 0 || !same && c[1] != 1 {
			t.Error(g, h, c, e)
		}
		if same {
			yes++
		} else {
			no++
		}
	}
	if yes < 100 || no < 100 {
		t.Error(yes, no)
	}
}

func TestLarge(t *testing.T) {
	var d samples.Dice
	for n := 20; n <= 200; n += 30 {
		for _, g := range []api.Graph{d.Planar(n, 2*n), d.Tree(n), d.Triangles(n)} {
			p := d.Perm(n)
			h := samples.Called(g, p)
			if q, e := iso.Map(g, h); e != api.OK || !iso.Is(g, h, q) {
				t.Error(n, e)
			}
			tints, others := make([]int, n), make([]int, n)
			for v := range tints {
				tints[v] = d.Roll(3)
				others[p[v]] = tints[v]
			}
			q, e := iso.Tinted(g, tints, h, others)
			if e != api.OK || !iso.Is(g, h, q) {
				t.Error(n, e)
			}
			for v, w := range q {
				if tints[v] != others[w] {
					t.Error(n, v, w)
				}
			}
		}
	}
}
