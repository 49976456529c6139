package pair_test

import (
	"math"
	"reflect"
	"slices"
	"testing"
	"time"

	"fretwork/api"
	"fretwork/links"
	"fretwork/pair"
	"fretwork/samples"
)

func link(a, b, v int) api.Link { return api.Link{A: a, B: b, V: v} }

// side answers n links side by side.
func side(n int) []api.Link {
	var out []api.Link
	for i := range n {
		out = append(out, link(2, 7, i))
	}
	return out
}

func TestErrors(t *testing.T) {
	for i, l := range [][]api.Link{nil, samples.Links(samples.Path(3)), {link(1, 0, 0)}, {link(0, 1, 0), link(0, 1, 0)}, samples.Links(samples.Beside(samples.Ring(3), samples.Ring(3))), samples.Links(samples.Star(3))} {
		c, e := pair.Classes(l, 0, 1)
		p, f := pair.Parts(l, 0, 1)
		a, b, ok, g := pair.First(l)
		if e != api.ErrTwo || f != api.ErrTwo || g != api.ErrTwo || c != nil || p || a != 0 || b != 0 || ok {
			t.Error(i, e, f, g)
		}
	}
	for _, x := range [][2]int{{0, 0}, {0, 4}, {4, 0}, {-1, 0}, {0, -1}, {math.MinInt, math.MaxInt}, {7, 7}} {
		c, e := pair.Classes(samples.Links(samples.Ring(4)), x[0], x[1])
		p, f := pair.Parts(samples.Links(samples.Ring(4)), x[0], x[1])
		if e != api.ErrTwo || f != api.ErrTwo || c != nil || p {
			t.Error(x, c, e, p, f)
		}
	}
}

func TestExamples(t *testing.T) {
	ring := samples.Links(samples.Ring(4))
	for _, x := range [][3]int{{0, 2, 1}, {1, 3, 1}, {3, 1, 1}, {0, 1, 0}, {2, 3, 0}} {
		if p, e := pair.Parts(ring, x[0], x[1]); e != api.OK || p != (x[2] == 1) {
			t.Error(x, p, e)
		}
	}
	if c, e := pair.Classes(ring, 0, 1); e != api.OK || !reflect.DeepEqual(c, [][]api.Link{ring[:1], ring[1:]}) {
		t.Error(c, e)
	}
	for i, x := range []struct {
		l    []api.Link
		a, b int
		ok   bool
	}{
		{ring, 0, 2, true}, {samples.Links(samples.Ring(3)), 0, 0, false}, {side(4), 2, 7, true}, {side(3), 0, 0, false}, {side(2), 0, 0, false}, {side(1), 0, 0, false}, {side(1000), 2, 7, true},
		{samples.Links(samples.Complete(4)), 0, 0, false}, {samples.Links(samples.Petersen()), 0, 0, false}, {samples.Links(samples.Bipartite(2, 3)), 0, 1, true}, {samples.Links(samples.Wheel(9)), 0, 0, false},
		{links.Sorted(append(samples.Links(samples.Ring(3)), link(1, 2, 9))), 1, 2, true}, {links.Sorted(append(samples.Links(samples.Complete(4)), link(1, 3, 9))), 1, 3, true},
	} {
		if a, b, ok, e := pair.First(x.l); e != api.OK || a != x.a || b != x.b || ok != x.ok {
			t.Error(i, a, b, ok, e)
		}
	}
}

// plainParts tells whether some classes together have two links at least, and the others, too.
func plainParts(classes [][]api.Link) bool {
	all := 0
	sums := map[int]int{0: 1}
	for _, c := range classes {
		all += len(c)
		for s := range 40 {
			if old := 39 - s; sums[old] == 1 {
				sums[old+len(c)] = 1
			}
		}
	}
	for s := 2; s <= all-2; s++ {
		if sums[s] == 1 {
			return true
		}
	}
	return false
}

// some are links by chance, with some side by side.
func some(d *samples.Dice) []api.Link {
	g := d.Strung(3 + d.Roll(5))
	if d.Roll(2) == 0 {
		g = d.Any(2+d.Roll(6), 12)
	}
	l := samples.Links(g)
	for range d.Roll(4) {
		if len(l) > 0 {
			l = append(l, link(l[d.Roll(len(l))].A, l[d.Roll(len(l))].B, 1+d.Roll(5)))
		}
	}
	l = slices.DeleteFunc(l, func(x api.Link) bool { return x.A == x.B })
	return slices.Compact(links.Sorted(l))
}

func TestAgainstPlain(t *testing.T) {
	var d samples.Dice
	var yes, no int
	for range 3000 {
		l := some(&d)
		if !links.Two(l) {
			continue
		}
		first, found := [2]int{}, false
		verts := links.Verts(l)
		for i, a := range verts {
			for _, b := range verts[i+1:] {
				c, e := pair.Classes(l, a, b)
				p, f := pair.Parts(l, b, a)
				if e != api.OK || f != api.OK || !reflect.DeepEqual(c, links.Groups(l, []int{a, b})) || p != plainParts(c) {
					t.Fatal(l, a, b, c, p, e, f)
				}
				if p && !found {
					first, found = [2]int{a, b}, true
				}
			}
		}
		if a, b, ok, e := pair.First(l); e != api.OK || ok != found || [2]int{a, b} != first {
			t.Fatal(l, a, b, ok, e, first, found)
		}
		if found {
			yes++
		} else {
			no++
		}
	}
	if yes < 300 || no < 100 {
		t.Error(yes, no)
	}
}

func TestLarge(t *testing.T) {
	begin := time.Now()
	for _, g := range []api.Graph{samples.Prism(333), samples.Wheel(500), samples.Complete(45)} {
		if a, b, ok, e := pair.First(samples.Links(g)); e != api.OK || ok {
			t.Error(a, b, ok, e)
		}
	}
	if took := time.Since(begin); took > 20*time.Second {
		t.Error(took)
	}
}
