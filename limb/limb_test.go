package limb_test

import (
	"bytes"
	"math"
	"slices"
	"testing"
	"time"

	"fretwork/api"
	"fretwork/limb"
	"fretwork/links"
	"fretwork/samples"
)

func link(a, b, v int) api.Link { return api.Link{A: a, B: b, V: v} }

// real is a graph's edges as links, its vertices called twice as high.
func real(g api.Graph) []api.Link {
	var l []api.Link
	for _, e := range g.Edges {
		l = append(l, link(2*e[0], 2*e[1], 0))
	}
	return l
}

func TestWrong(t *testing.T) {
	ring := real(samples.Ring(3))
	for i, x := range []struct {
		l     []api.Link
		tints []int
	}{
		{nil, nil}, {ring, nil}, {ring, make([]int, 2)}, {ring, make([]int, 4)}, {ring, []int{0, 0, -1}}, {ring, []int{0, api.MaxTint, 0}}, {ring, []int{math.MaxInt, 0, 0}}, {real(samples.Path(3)), make([]int, 3)},
		{[]api.Link{link(0, 1, 1)}, make([]int, 2)}, {[]api.Link{link(0, 1, 0), link(0, 1, 1)}, make([]int, 2)}, {[]api.Link{link(0, 1, 0), link(0, 2, 0), link(1, 2, 3)}, make([]int, 3)}, {[]api.Link{link(1, 0, 0)}, make([]int, 2)},
		{real(samples.Ring(201)), make([]int, 201)}, {real(samples.Beside(samples.Ring(3), samples.Ring(3))), make([]int, 6)}, {[]api.Link{link(0, 1, 0), link(0, 1, 0)}, make([]int, 2)},
	} {
		c, e := limb.Code(x.l, x.tints, links.Verts(x.l))
		n, f := limb.Canon(x.l, x.tints)
		if limb.Right(x.l, x.tints) || e != api.ErrLimb || f != api.ErrLimb || c != nil || n.Code != nil || n.Order != nil {
			t.Error(i, e, f)
		}
	}
	for _, order := range [][]int{nil, {0, 2}, {0, 2, 2}, {0, 2, 4, 4}, {0, 1, 2}, {0, 2, 6}, {-2, 0, 2}} {
		if c, e := limb.Code(ring, []int{0, 0, 0}, order); e != api.ErrLimb || c != nil {
			t.Error(order, c, e)
		}
	}
	for i, g := range []api.Graph{samples.Complete(5), samples.Petersen(), samples.Complete(40), samples.Bipartite(3, 3), samples.Subdivided(samples.Complete(5)), twoTwisted()} {
		l := real(g)
		n, e := limb.Canon(l, make([]int, g.N))
		if _, f := limb.Code(l, make([]int, g.N), links.Verts(l)); e != api.ErrPlane || f != api.OK || n.Code != nil || n.Order != nil || !limb.Right(l, make([]int, g.N)) {
			t.Error(i, e, f)
		}
	}
}

// twoTwisted is a ring and a twist that have two vertices in common.
func twoTwisted() api.Graph {
	return samples.Of(9, append(samples.Complete(5).Edges, [2]int{0, 5}, [2]int{5, 6}, [2]int{6, 7}, [2]int{7, 8}, [2]int{1, 8})...)
}

func TestExamples(t *testing.T) {
	n, e := limb.Canon([]api.Link{link(4, 7, 0)}, []int{9, 2})
	if want := samples.Numbers(2, 2, 9, 1, 0, 1); e != api.OK || !slices.Equal(n.Order, []int{7, 4}) && !slices.Equal(n.Order, []int{4, 7}) || n.Order[0] == 7 && !bytes.Equal(n.Code, want) {
		t.Error(n, e)
	}
	if m, _ := limb.Canon([]api.Link{link(1, 2, 0)}, []int{2, 9}); !bytes.Equal(m.Code, n.Code) {
		t.Error(m, n)
	}
	triangle := []api.Link{link(0, 1, 0), link(0, 2, 0), link(1, 2, 0)}
	if c, e := limb.Code(triangle, []int{5, 6, 7}, []int{2, 0, 1}); e != api.OK || !bytes.Equal(c, samples.Numbers(3, 7, 5, 6, 3, 0, 1, 0, 2, 1, 2)) {
		t.Error(c, e)
	}
}

// canon is what Canon tells, held against Code.
func canon(t *testing.T, g api.Graph, tints []int) string {
	t.Helper()
	l := real(g)
	n, e := limb.Canon(l, tints)
	c, f := limb.Code(l, tints, n.Order)
	if e != api.OK || f != api.OK || !bytes.Equal(c, n.Code) {
		t.Fatal(g, tints, n, e, f)
	}
	return string(n.Code)
}

func TestCalledAnew(t *testing.T) {
	var d samples.Dice
	for n := 3; n <= 200; n += 1 + n/12 {
		for _, g := range []api.Graph{d.Strung(n), d.Strung(3 + n/8), samples.Ring(n), samples.Bipartite(2, 1+n/2), samples.Wheel(2 + n/2), samples.Grid(3, 2+n/4)} {
			tints := d.Tints(g.N, 1+d.Roll(2))
			h, others := samples.TintedCalled(g, tints, d.Perm(g.N))
			if g.N >= 3 && canon(t, g, tints) != canon(t, h, others) {
				t.Error(g, tints, h, others)
			}
		}
	}
}

func TestAgainstAllMaps(t *testing.T) {
	var d samples.Dice
	var yes, no int
	for range 1500 {
		g := d.Strung(4 + d.Roll(4))
		h := d.Strung(g.N)
		if d.Roll(3) == 0 {
			h = samples.Called(g, d.Perm(g.N))
		}
		if g.N != h.N || len(g.Edges) != len(h.Edges) {
			continue
		}
		tints, others := d.Tints(g.N, 1+d.Roll(2)), d.Tints(h.N, 2)
		if slices.Max(tints) == 0 || d.Roll(2) == 0 {
			others = slices.Clone(tints)
		}
		same := samples.TintedMapped(g, tints, h, others)
		if (canon(t, g, tints) == canon(t, h, others)) != same {
			t.Fatal(g, tints, h, others, same)
		}
		if same {
			yes++
		} else {
			no++
		}
	}
	if yes < 100 || no < 100 {
		t.Error(yes, no)
	}
}

func TestSymmetric(t *testing.T) {
	// Whichever vertex is tinted, the code is the same where maps take the one to the other.
	for _, g := range []api.Graph{samples.Ring(8), samples.Complete(4), samples.Prism(4), samples.Prism(5), samples.Bipartite(2, 5), samples.Subdivided(samples.Complete(4)), samples.Grid(3, 3), samples.Wheel(6)} {
		maps := samples.Maps(g, g, 1<<30)
		codes := make([]string, g.N)
		for v := range g.N {
			tints := make([]int, g.N)
			tints[v] = 1
			codes[v] = canon(t, g, tints)
		}
		for v := range g.N {
			for w := range g.N {
				taken := slices.ContainsFunc(maps, func(p []int) bool { return p[v] == w })
				if (codes[v] == codes[w]) != taken {
					t.Error(g, v, w)
				}
			}
		}
	}
}

func TestLarge(t *testing.T) {
	var d samples.Dice
	begin := time.Now()
	for _, g := range []api.Graph{d.Triangles(200), d.Triangles(200), samples.Wheel(199), samples.Prism(100), samples.Grid(14, 14), samples.Bipartite(2, 198), samples.Ring(200)} {
		tints := make([]int, g.N)
		h, others := samples.TintedCalled(g, tints, d.Perm(g.N))
		if canon(t, g, tints) != canon(t, h, others) {
			t.Error(g.N)
		}
	}
	if took := time.Since(begin); took > 60*time.Second {
		t.Error(took)
	}
}

func TestNothingChanged(t *testing.T) {
	l, tints := real(samples.Grid(3, 3)), []int{0, 1, 2, 3, 4, 5, 6, 7, 8}
	limb.Canon(l, tints)
	if !slices.Equal(l, real(samples.Grid(3, 3))) || !slices.IsSorted(tints) {
		t.Error(l, tints)
	}
}
