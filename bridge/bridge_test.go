package bridge_test

import (
	"reflect"
	"slices"
	"testing"

	"fretwork/api"
	"fretwork/bridge"
	"fretwork/low"
	"fretwork/samples"
	"fretwork/walk"
)

// example is the chapter's graph: a ring of four, an edge across, and a vertex more.
func example() (api.Graph, [][2]int) {
	web := samples.Ring(4).Edges
	return samples.Of(5, append([][2]int{{0, 2}, {0, 4}, {1, 4}, {3, 4}}, web...)...), web
}

func TestExamples(t *testing.T) {
	g, web := example()
	want := []api.Fragment{{Edges: [][2]int{{0, 2}}, Feet: []int{0, 2}}, {Edges: [][2]int{{0, 4}, {1, 4}, {3, 4}}, Feet: []int{0, 1, 3}}}
	if f, e := bridge.Fragments(g, web); e != api.OK || !reflect.DeepEqual(f, want) {
		t.Error(f, e)
	}
	if f, e := bridge.Fragments(g, nil); e != api.OK || len(f) != 1 || !slices.Equal(f[0].Edges, g.Edges) || len(f[0].Feet) != 0 {
		t.Error(f, e)
	}
	if f, e := bridge.Fragments(g, g.Edges); e != api.OK || len(f) != 0 {
		t.Error(f, e)
	}
	if f, e := bridge.Fragments(api.Graph{N: 4}, nil); e != api.OK || len(f) != 0 {
		t.Error(f, e)
	}
}

func TestErrors(t *testing.T) {
	g, _ := example()
	for i, web := range [][][2]int{
		{{1, 2}, {0, 1}}, {{0, 1}, {0, 1}}, {{1, 0}}, {{2, 4}}, {{0, 1}, {2, 4}}, {{0, 0}}, {{-1, 0}}, {{4, 5}}, slices.Concat(g.Edges, g.Edges),
	} {
		if f, e := bridge.Fragments(g, web); e != api.ErrArg || f != nil {
			t.Error(i, f, e)
		}
	}
	for i, wrong := range []api.Graph{{N: -1}, {N: 201}, {N: 2, Edges: [][2]int{{1, 0}}}} {
		if f, e := bridge.Fragments(wrong, [][2]int{{5, 4}}); e != api.ErrGraph || f != nil {
			t.Error(i, f, e)
		}
	}
}

// linked tells whether two edges are of one fragment: one comes from the one to the other without passing the web.
func linked(rest [][2]int, on map[int]int, e, f [2]int) bool {
	met := map[[2]int]int{e: 1}
	list := [][2]int{e}
	for i := 0; i < len(list); i++ {
		for _, x := range rest {
			for _, v := range list[i] {
				if on[v] == 0 && (x[0] == v || x[1] == v) && met[x] == 0 {
					met[x] = 1
					list = append(list, x)
				}
			}
		}
	}
	return met[f] == 1
}

func TestFragments(t *testing.T) {
	var d samples.Dice
	for n := 2; n < 24; n++ {
		for m := range 5 {
			g := d.Any(n, n*m/2+1)
			web := d.Thinned(g, d.Roll(len(g.Edges)+1)).Edges
			check(t, g, web)
		}
	}
}

func check(t *testing.T, g api.Graph, web [][2]int) {
	all, e := bridge.Fragments(g, web)
	on := map[int]int{}
	for _, x := range web {
		on[x[0]], on[x[1]] = 1, 1
	}
	rest := slices.DeleteFunc(slices.Clone(g.Edges), func(x [2]int) bool { return slices.Contains(web, x) })
	of := map[[2]int]int{}
	last := [2]int{-1, -1}
	for i, f := range all {
		var feet []int
		for _, x := range f.Edges {
			of[x] = i
			for _, v := range x {
				if on[v] == 1 && !slices.Contains(feet, v) {
					feet = append(feet, v)
				}
			}
		}
		slices.Sort(feet)
		if !slices.Equal(feet, f.Feet) || slices.Compare(last[:], f.Edges[0][:]) >= 0 || !slices.IsSortedFunc(f.Edges, func(a, b [2]int) int { return slices.Compare(a[:], b[:]) }) {
			t.Error(g, web, f)
		}
		last = f.Edges[0]
	}
	if e != api.OK || len(of) != len(rest) {
		t.Error(g, web, all, e)
	}
	for _, x := range rest {
		for _, y := range rest {
			if (of[x] == of[y]) != linked(rest, on, x, y) {
				t.Error(g, web, x, y)
			}
		}
	}
}

func TestFeetOfTwoConnected(t *testing.T) {
	var d samples.Dice
	for n := 4; n < 60; n += 5 {
		g := d.Strung(n)
		if b, _ := low.Blocks(g); len(b) != 1 || len(walk.Parts(g)) != 1 {
			t.Fatal("the sample is not two-connected")
		}
		all, _ := bridge.Fragments(g, d.Thinned(g, 1+d.Roll(n)).Edges)
		for _, f := range all {
			if len(f.Feet) < 2 {
				t.Error(g, f)
			}
		}
	}
}

func TestNothingChanged(t *testing.T) {
	g, web := example()
	f, _ := bridge.Fragments(g, web)
	_ = append(f[0].Edges, [2]int{9, 9})
	f[0].Edges[0][0], f[1].Feet[0] = 9, 9
	if h, x := example(); !samples.Same(g, h) || !slices.Equal(web, x) || f[1].Edges[0] != [2]int{0, 4} {
		t.Error(g, web, f)
	}
}
