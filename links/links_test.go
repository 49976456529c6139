package links_test

import (
	"math"
	"reflect"
	"slices"
	"testing"

	"fretwork/api"
	"fretwork/links"
	"fretwork/samples"
)

func link(a, b, v int) api.Link { return api.Link{A: a, B: b, V: v} }

// wrongs are some that are no right links.
func wrongs() [][]api.Link {
	var many []api.Link
	for i := range api.MaxLinks + 1 {
		many = append(many, link(0, 1, i))
	}
	return [][]api.Link{
		{link(0, 0, 0)}, {link(1, 0, 0)}, {link(-1, 0, 0)}, {link(0, api.MaxVertex, 0)}, {link(0, 1, -1)}, {link(0, 1, api.MaxVertex+1)}, {link(math.MinInt, math.MaxInt, 0)},
		{link(0, 1, 0), link(0, 1, 0)}, {link(0, 2, 0), link(0, 1, 0)}, {link(0, 1, 1), link(0, 1, 0)}, {link(1, 2, 0), link(0, 1, 0)}, many,
	}
}

// bent is the chapter's: a triangle, and a link more.
func bent() []api.Link {
	return []api.Link{link(0, 1, 0), link(0, 2, 0), link(1, 2, 0), link(2, 3, 0)}
}

// some are links by chance among n vertices.
func some(d *samples.Dice, n, m int) []api.Link {
	var out []api.Link
	for range m {
		a, b := d.Roll(n), d.Roll(n)
		if a != b {
			out = append(out, link(3*a, 3*b, d.Roll(3)))
		}
	}
	return slices.Compact(links.Sorted(out))
}

func TestRight(t *testing.T) {
	for i, l := range wrongs() {
		if links.Right(l) || links.Groups(l, nil) != nil || links.Joined(l) || links.Two(l) {
			t.Error(i)
		}
	}
	for i, l := range [][]api.Link{nil, {}, bent(), {link(0, 1, 0), link(0, 1, 1), link(0, 1, api.MaxVertex)}, {link(api.MaxVertex-2, api.MaxVertex-1, 0)}, wrongs()[11][1:]} {
		if !links.Right(l) {
			t.Error(i)
		}
	}
}

func TestExamples(t *testing.T) {
	if !links.Joined(bent()) || links.Two(bent()) {
		t.Error("a triangle and a link")
	}
	if g := links.Groups(bent(), []int{2}); !reflect.DeepEqual(g, [][]api.Link{bent()[:3], bent()[3:]}) {
		t.Error(g)
	}
	if !links.Two(bent()[:3]) || !links.Two(bent()[:1]) || links.Two(nil) || links.Joined(nil) {
		t.Error("two-connected")
	}
	both := []api.Link{link(0, 1, 0), link(0, 1, 5)}
	if g := links.Groups(both, []int{0, 1}); !links.Two(both) || len(g) != 2 {
		t.Error(g)
	}
	if g := links.Groups(nil, []int{1}); len(g) != 0 {
		t.Error(g)
	}
	if l := links.Sorted([]api.Link{link(5, 2, 1), link(2, 5, 0), link(-7, 3, 4), link(1, 1, -9), link(2, 5, 0)}); !slices.Equal(l, []api.Link{link(-7, 3, 4), link(1, 1, -9), link(2, 5, 0), link(2, 5, 0), link(2, 5, 1)}) {
		t.Error(l)
	}
	if v := links.Verts([]api.Link{link(5, 2, 1), link(-2, 5, 0), link(2, 2, 0)}); !slices.Equal(v, []int{-2, 2, 5}) || len(links.Verts(nil)) != 0 || len(links.Sorted(nil)) != 0 {
		t.Error(v)
	}
}

// plainGroups are the groups as the chapter words them.
func plainGroups(l []api.Link, without []int) [][]api.Link {
	touch := func(x, y api.Link) bool {
		for _, v := range []int{x.A, x.B} {
			if (v == y.A || v == y.B) && !slices.Contains(without, v) {
				return true
			}
		}
		return false
	}
	group := make([]int, len(l))
	for i := range l {
		group[i] = i
	}
	for range l {
		for i, x := range l {
			for j, y := range l {
				if touch(x, y) {
					group[i] = min(group[i], group[j])
				}
			}
		}
	}
	var out [][]api.Link
	for first := range l {
		var g []api.Link
		for i, x := range l {
			if group[i] == first {
				g = append(g, x)
			}
		}
		if g != nil {
			out = append(out, g)
		}
	}
	return out
}

func TestGroups(t *testing.T) {
	var d samples.Dice
	for range 300 {
		n := 2 + d.Roll(8)
		l := some(&d, n, d.Roll(14))
		var without []int
		for range d.Roll(4) {
			without = append(without, 3*d.Roll(n)-d.Roll(2))
		}
		kept, also := slices.Clone(l), slices.Clone(without)
		if g := links.Groups(l, without); !reflect.DeepEqual(g, plainGroups(l, without)) {
			t.Error(l, without, g)
		}
		if !slices.Equal(l, kept) || !slices.Equal(without, also) {
			t.Error("changed")
		}
	}
}

func TestTwo(t *testing.T) {
	var d samples.Dice
	var yes int
	for range 2000 {
		l := some(&d, 2+d.Roll(6), 1+d.Roll(12))
		joined := len(plainGroups(l, nil)) == 1
		two := joined
		if v := links.Verts(l); len(v) > 2 {
			for _, x := range v {
				two = two && len(plainGroups(l, []int{x})) == 1
			}
		}
		if links.Joined(l) != joined || links.Two(l) != two {
			t.Error(l, joined, two)
		}
		if two {
			yes++
		}
	}
	if yes < 200 {
		t.Error(yes)
	}
}

func TestLarge(t *testing.T) {
	var row []api.Link
	for i := range api.MaxLinks {
		row = append(row, link(i, i+1, 0))
	}
	ring := links.Sorted(append(slices.Clone(row[:api.MaxLinks-1]), link(0, api.MaxLinks-1, 0)))
	if links.Two(row) || !links.Joined(row) || !links.Two(ring) || len(links.Groups(row, []int{3, 4, 900})) != 4 {
		t.Error("a row, a ring")
	}
}

func TestNothingShared(t *testing.T) {
	l := bent()
	g := links.Groups(l, []int{2})
	_ = append(g[0], link(9, 9, 9))
	g[0][0], links.Sorted(l)[0] = link(8, 8, 8), link(8, 8, 8)
	if !slices.Equal(l, bent()) || g[1][0] != link(2, 3, 0) {
		t.Error(l, g)
	}
}
