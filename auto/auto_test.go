package auto_test

import (
	"math"
	"reflect"
	"slices"
	"strconv"
	"strings"
	"testing"
	"time"

	"fretwork/api"
	"fretwork/auto"
	"fretwork/perm"
	"fretwork/samples"
)

func TestErrors(t *testing.T) {
	for i, x := range []struct {
		g    api.Graph
		want api.Errno
	}{
		{api.Graph{N: -1}, api.ErrGraph}, {api.Graph{N: 2, Edges: [][2]int{{1, 0}}}, api.ErrGraph}, {api.Graph{N: 201}, api.ErrGraph}, {api.Graph{N: 41}, api.ErrLarge}, {samples.Beside(samples.Complete(5), samples.Ring(36)), api.ErrLarge},
		{samples.Complete(5), api.ErrPlane}, {samples.Petersen(), api.ErrPlane}, {samples.Beside(samples.Path(3), samples.Bipartite(3, 3)), api.ErrPlane},
	} {
		a, e := auto.Auto(x.g)
		o, f := auto.Orbits(x.g)
		if e != x.want || f != x.want || a.Chain != nil || a.Gens != nil || o != nil {
			t.Error(i, a, o, e, f)
		}
	}
}

func TestIs(t *testing.T) {
	ring, k5 := samples.Ring(4), samples.Complete(5)
	for _, p := range [][]int{{0, 1, 2, 3}, {1, 2, 3, 0}, {0, 3, 2, 1}} {
		if !auto.Is(ring, p) {
			t.Error(p)
		}
	}
	for i, p := range [][]int{nil, {0, 1, 2}, {0, 2, 1, 3}, {0, 1, 2, 2}, {0, 1, 2, 4}, {-1, 1, 2, 3}, {0, 1, 2, 3, 4}} {
		if auto.Is(ring, p) {
			t.Error(i, p)
		}
	}
	if !auto.Is(k5, []int{4, 3, 2, 1, 0}) || !auto.Is(api.Graph{}, nil) || auto.Is(api.Graph{N: 2, Edges: [][2]int{{1, 0}}}, []int{0, 1}) || auto.Is(api.Graph{N: -1}, nil) {
		t.Error("is")
	}
}

func TestSize(t *testing.T) {
	for i, x := range []struct {
		chain []int
		want  string
	}{
		{nil, "1"}, {[]int{}, "1"}, {[]int{7}, "7"}, {[]int{0}, "0"}, {[]int{200, 200, 200, 200, 200, 0, 3}, "0"}, {[]int{-1}, ""}, {[]int{201}, ""}, {[]int{0, -1}, ""}, {[]int{3, 201, 4}, ""}, {[]int{math.MaxInt, 0}, ""}, {[]int{math.MinInt}, ""},
		{slices.Repeat([]int{10}, 40), "1" + strings.Repeat("0", 40)}, {slices.Repeat([]int{200}, 9), "512" + strings.Repeat("0", 18)}, {[]int{4, 2, 1, 1}, "8"}, {slices.Repeat([]int{2}, 100), "1267650600228229401496703205376"},
		{[]int{100, 100, 100, 100, 10, 1, 7}, "7000000000"}, {[]int{200, 200, 200, 125, 1}, "1000000000"}, {slices.Repeat([]int{1}, 1000), "1"},
	} {
		if s := auto.Size(api.Group{Chain: x.chain}); s != x.want {
			t.Error(i, s, x.want)
		}
	}
	var chain []int // 40!
	for n := range 40 {
		chain = append(chain, 1+n)
	}
	if s := auto.Size(api.Group{Chain: chain}); s != "815915283247897734345611269596115894272000000000" {
		t.Error(s)
	}
	if s := auto.Size(api.Group{Chain: slices.Repeat([]int{200}, 20000)}); len(s) != 46021 {
		t.Error(len(s))
	}
}

func TestExamples(t *testing.T) {
	a, e := auto.Auto(samples.Ring(4))
	if e != api.OK || !slices.Equal(a.Chain, []int{4, 2, 1, 1}) || len(a.Gens) != 2 || !slices.Equal(a.Gens[0], []int{0, 3, 2, 1}) || a.Gens[1][0] != 1 || auto.Size(a) != "8" {
		t.Error(a, e)
	}
	a, e = auto.Auto(api.Graph{N: 3})
	if e != api.OK || !slices.Equal(a.Chain, []int{3, 2, 1}) || len(a.Gens) != 2 || auto.Size(a) != "6" {
		t.Error(a, e)
	}
	a, e = auto.Auto(samples.Path(3))
	o, f := auto.Orbits(samples.Path(3))
	if e != api.OK || f != api.OK || !slices.Equal(a.Chain, []int{2, 1, 1}) || !reflect.DeepEqual(o, [][]int{{0, 2}, {1}}) {
		t.Error(a, o, e, f)
	}
	a, e = auto.Auto(api.Graph{})
	if o, f := auto.Orbits(api.Graph{}); e != api.OK || f != api.OK || len(a.Chain) != 0 || len(a.Gens) != 0 || len(o) != 0 {
		t.Error(a, o, e, f)
	}
	for want, g := range map[string]api.Graph{"48": samples.Prism(4), "80": samples.Prism(20), "24": samples.Complete(4), "815915283247897734345611269596115894272000000000": {N: 40}, "2": samples.Path(40), "1296": samples.Beside(samples.Ring(3), samples.Ring(3), samples.Ring(3))} {
		if a, e := auto.Auto(g); e != api.OK || auto.Size(a) != want {
			t.Error(want, auto.Size(a), e)
		}
	}
}

// reached is where maps, one behind the other, take a vertex.
func reached(maps [][]int, v int) []int {
	out := []int{v}
	for i := 0; i < len(out); i++ {
		for _, p := range maps {
			if !slices.Contains(out, p[out[i]]) {
				out = append(out, p[out[i]])
			}
		}
	}
	slices.Sort(out)
	return out
}

// fixed tells whether a map leaves all below k where they are.
func fixed(p []int, k int) bool {
	return slices.Equal(p[:k], perm.Identity(k))
}

// checkMaps holds a group against all maps of a small graph.
func checkMaps(t *testing.T, g api.Graph, a api.Group) {
	t.Helper()
	all := samples.Maps(g, g, 1<<30)
	if auto.Size(a) != strconv.Itoa(len(all)) || len(a.Chain) != g.N || g.N > 0 && len(a.Gens) >= g.N {
		t.Fatal(g, a, len(all))
	}
	told := 0
	for k := g.N - 1; k >= 0; k-- {
		var to []int
		for _, p := range all {
			if fixed(p, k) && !slices.Contains(to, p[k]) {
				to = append(to, p[k])
			}
		}
		slices.Sort(to)
		if len(to) != a.Chain[k] {
			t.Fatal(g, k, to, a)
		}
		for _, w := range to {
			if slices.Contains(reached(a.Gens[:told], k), w) {
				continue
			}
			if told >= len(a.Gens) || a.Gens[told][k] != w || !fixed(a.Gens[told], k) || !auto.Is(g, a.Gens[told]) {
				t.Fatal(g, k, w, a)
			}
			told++
		}
	}
	if told != len(a.Gens) {
		t.Error(g, told, a)
	}
}

func TestAgainstAllMaps(t *testing.T) {
	var d samples.Dice
	for range 300 {
		n := 3 + d.Roll(4)
		g := d.Planar(n, d.Roll(3*n))
		if d.Roll(4) == 0 {
			g = samples.Beside(g, g)
			g = samples.Called(api.Graph{N: g.N, Edges: g.Edges}, d.Perm(g.N))
		}
		if len(samples.Maps(g, g, 5000)) == 5000 {
			continue
		}
		a, e := auto.Auto(g)
		if e != api.OK {
			t.Fatal(g, e)
		}
		checkMaps(t, g, a)
		o, e := auto.Orbits(g)
		met := 0
		for i, list := range o {
			met += len(list)
			if !slices.Equal(list, reached(samples.Maps(g, g, 1<<30), list[0])) || i > 0 && o[i-1][0] >= list[0] {
				t.Error(g, o)
			}
		}
		if e != api.OK || met != g.N {
			t.Error(g, o, e)
		}
		if b, _ := auto.Auto(samples.Called(g, d.Perm(g.N))); auto.Size(b) != auto.Size(a) {
			t.Error(g, a, b)
		}
	}
}

func TestLarge(t *testing.T) {
	var d samples.Dice
	for _, g := range []api.Graph{samples.Ring(40), samples.Prism(20), samples.Wheel(39), d.Triangles(40), d.Planar(40, 80), d.Tree(40), samples.Path(40), samples.Grid(6, 6), samples.Bipartite(2, 38), samples.Subdivided(samples.Prism(5))} {
		begin := time.Now()
		a, e := auto.Auto(g)
		b, f := auto.Auto(samples.Called(g, d.Perm(g.N)))
		if e != api.OK || f != api.OK || auto.Size(a) != auto.Size(b) {
			t.Error(g, a, b)
		}
		for _, p := range a.Gens {
			if !auto.Is(g, p) {
				t.Error(g, p)
			}
		}
		if took := time.Since(begin); took > 30*time.Second {
			t.Error(g, took)
		}
		t.Log(len(g.Edges), auto.Size(a), time.Since(begin))
	}
}
