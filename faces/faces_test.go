package faces_test

import (
	"math"
	"reflect"
	"slices"
	"testing"

	"fretwork/api"
	"fretwork/faces"
	"fretwork/graph"
	"fretwork/samples"
	"fretwork/walk"
)

// anyCircles are circles of g, put together by chance.
func anyCircles(d *samples.Dice, g api.Graph) api.Rot {
	r := api.Rot(graph.Beside(g))
	for _, list := range r {
		p := d.Perm(len(list))
		old := slices.Clone(list)
		for i := range list {
			list[i] = old[p[i]]
		}
	}
	return r
}

func many(d *samples.Dice) []api.Graph {
	out := []api.Graph{{}, {N: 3}, samples.Petersen(), samples.Complete(6), samples.Path(2), samples.Beside(samples.Ring(3), samples.Path(1), samples.Complete(4))}
	for n := 1; n <= 200; n += 9 {
		out = append(out, d.Any(n, 2*n), d.Tree(n))
	}
	return out
}

func TestExamples(t *testing.T) {
	ring := api.Rot{{1, 2}, {0, 2}, {0, 1}}
	if f, e := faces.Faces(ring); e != api.OK || !reflect.DeepEqual(f, [][]int{{0, 1, 2}, {0, 2, 1}}) || !faces.Plane(samples.Ring(3), ring) {
		t.Error(f, e)
	}
	k4 := samples.Complete(4)
	twisted := api.Rot{{1, 2, 3}, {0, 2, 3}, {0, 1, 3}, {0, 1, 2}}
	if f, e := faces.Faces(twisted); e != api.OK || !reflect.DeepEqual(f, [][]int{{0, 1, 2, 3}, {0, 2, 1, 3, 2, 0, 3, 1}}) || faces.Plane(k4, twisted) || !faces.Right(k4, twisted) {
		t.Error(f, e)
	}
	flat := api.Rot{{1, 2, 3}, {0, 3, 2}, {0, 1, 3}, {0, 2, 1}}
	if f, e := faces.Faces(flat); e != api.OK || len(f) != 4 || !faces.Plane(k4, flat) {
		t.Error(f, e)
	}
	if f, e := faces.Faces(api.Rot{{1}, {}}); e != api.ErrRot || f != nil {
		t.Error(f, e)
	}
}

func TestWrong(t *testing.T) {
	long := make(api.Rot, 201)
	wide := make(api.Rot, 36) // circles of too many edges
	for v := range wide {
		for i := 1; i < 36; i++ {
			wide[v] = append(wide[v], (v+i)%36)
		}
	}
	for i, r := range []api.Rot{
		{{0}}, {{1}, {0, 0}}, {{1, 1}, {0, 0}}, {{1}, {}}, {{2}, {0}}, {{-1}, {0}}, {{1}, {0}, {1}}, {{1, 2}, {0}, {}}, {{}, {0}}, {{math.MaxInt}, {math.MinInt}}, long, wide, {make([]int, 1<<20)},
	} {
		if f, e := faces.Faces(r); e != api.ErrRot || f != nil {
			t.Error(i, f, e)
		}
		for _, g := range []api.Graph{{N: len(r)}, samples.Path(2), samples.Complete(36)} {
			if faces.Right(g, r) || faces.Plane(g, r) {
				t.Error(i, g.N)
			}
		}
	}
	wrong := api.Graph{N: 2, Edges: [][2]int{{1, 0}}}
	if faces.Right(wrong, api.Rot{{1}, {0}}) || faces.Plane(wrong, api.Rot{{1}, {0}}) || faces.Right(samples.Path(2), api.Rot{{1}, {0}, {}}) || faces.Right(samples.Path(2), nil) {
		t.Error("circles of no graph")
	}
	if faces.Right(samples.Path(3), api.Rot{{1}, {0}, {}}) || faces.Right(api.Graph{N: 3}, api.Rot{{1}, {0}, {}}) {
		t.Error("circles of another graph")
	}
}

func TestNothing(t *testing.T) {
	for _, r := range []api.Rot{nil, {}, {nil}, {{}, {}}} {
		if f, e := faces.Faces(r); e != api.OK || len(f) != 0 || !faces.Plane(api.Graph{N: len(r)}, r) || len(faces.Mirror(r)) != len(r) {
			t.Error(r, f, e)
		}
	}
}

// genus is by how much the faces of a part are fewer than they would be in a plane.
func genus(g api.Graph, f [][]int) map[int]int {
	out := map[int]int{}
	for _, part := range walk.Parts(g) {
		n := len(part) - 2
		edges := 0
		for _, e := range g.Edges {
			if slices.Contains(part, e[0]) {
				n--
				edges++
			}
		}
		for _, l := range f {
			if slices.Contains(part, l[0]) {
				n++
			}
		}
		if edges > 0 {
			out[part[0]] = -n
		}
	}
	return out
}

func TestFaces(t *testing.T) {
	var d samples.Dice
	for _, g := range many(&d) {
		r := anyCircles(&d, g)
		all, e := faces.Faces(r)
		if e != api.OK || !faces.Right(g, r) {
			t.Fatal(g, e)
		}
		met := map[[2]int]int{}
		last := [2]int{-1, -1}
		for _, f := range all {
			least := [2]int{f[0], f[1%len(f)]}
			for i, v := range f {
				w, x := f[(i+1)%len(f)], f[(i+2)%len(f)]
				met[[2]int{v, w}]++
				at := slices.Index(r[w], v)
				if r[w][(at+1)%len(r[w])] != x || slices.Compare([]int{v, w}, least[:]) < 0 {
					t.Error(g, r, f)
				}
			}
			if slices.Compare(last[:], least[:]) >= 0 {
				t.Error(g, all)
			}
			last = least
		}
		flat := true
		for _, n := range genus(g, all) {
			flat = flat && n == 0
			if n < 0 || n%2 != 0 {
				t.Error(g, n)
			}
		}
		if len(met) != 2*len(g.Edges) || faces.Plane(g, r) != flat {
			t.Error(g, len(met), flat)
		}
	}
}

func TestMirror(t *testing.T) {
	var d samples.Dice
	for _, g := range many(&d) {
		r := anyCircles(&d, g)
		kept := faces.Mirror(faces.Mirror(r))
		m := faces.Mirror(r)
		a, _ := faces.Faces(r)
		b, e := faces.Faces(m)
		if e != api.OK || len(a) != len(b) || faces.Plane(g, r) != faces.Plane(g, m) || !reflect.DeepEqual(append(api.Rot{}, r...), append(api.Rot{}, kept...)) {
			t.Error(g, e)
		}
		for _, list := range m {
			for i := range list {
				list[i] = -1
			}
		}
		if !faces.Right(g, r) {
			t.Error("a mirror shares memory")
		}
	}
	if m := faces.Mirror(api.Rot{{-5, 7, 7}, nil, {1}}); !slices.Equal(m[0], []int{7, 7, -5}) || len(m[1]) != 0 || m[2][0] != 1 {
		t.Error(m)
	}
}

func TestTurnedLists(t *testing.T) {
	var d samples.Dice
	for _, g := range many(&d) {
		r := anyCircles(&d, g)
		turned := make(api.Rot, len(r))
		for v, list := range r {
			k := 0
			if len(list) > 0 {
				k = d.Roll(len(list))
			}
			turned[v] = append(slices.Clone(list[k:]), list[:k]...)
		}
		a, _ := faces.Faces(r)
		if b, _ := faces.Faces(turned); !reflect.DeepEqual(a, b) {
			t.Error(g)
		}
	}
}
