package planar_test

import (
	"reflect"
	"slices"
	"testing"

	"fretwork/api"
	"fretwork/faces"
	"fretwork/kura"
	"fretwork/planar"
	"fretwork/samples"
)

// bow is two triangles that have the vertex 2.
func bow() api.Graph {
	return samples.Of(5, [2]int{0, 1}, [2]int{0, 2}, [2]int{1, 2}, [2]int{2, 3}, [2]int{2, 4}, [2]int{3, 4})
}

func TestExamples(t *testing.T) {
	r, w, e := planar.Certify(bow())
	if e != api.OK || len(w) != 0 || len(r) != 5 || len(r[2]) != 4 || !faces.Plane(bow(), r) || !planar.Check(bow(), r, nil) {
		t.Error(r, w, e)
	}
	k5 := samples.Complete(5)
	r, w, e = planar.Certify(k5)
	if e != api.OK || len(r) != 0 || !slices.Equal(w, k5.Edges) || !planar.Check(k5, nil, w) || !planar.Check(k5, api.Rot{}, w) {
		t.Error(r, w, e)
	}
	r, w, e = planar.Certify(api.Graph{})
	if e != api.OK || len(r) != 0 || len(w) != 0 || !planar.Check(api.Graph{}, nil, nil) || !planar.Check(api.Graph{}, api.Rot{}, [][2]int{}) {
		t.Error(r, w, e)
	}
	if r, w, e := planar.Certify(api.Graph{N: 3}); e != api.OK || !planar.Check(api.Graph{N: 3}, r, w) || len(r) != 3 {
		t.Error(r, w, e)
	}
}

func TestWrongGraphs(t *testing.T) {
	for i, g := range []api.Graph{{N: -1}, {N: 201}, {N: 2, Edges: [][2]int{{1, 0}}}, {N: 36, Edges: samples.Complete(36).Edges}} {
		if r, w, e := planar.Certify(g); e != api.ErrGraph || r != nil || w != nil {
			t.Error(i, r, w, e)
		}
		if planar.Check(g, nil, nil) || planar.Check(g, make(api.Rot, 2), nil) || planar.Check(g, nil, samples.Complete(5).Edges) {
			t.Error(i)
		}
	}
}

func TestCheckWrong(t *testing.T) {
	k5, k4, k6 := samples.Complete(5), samples.Complete(4), samples.Complete(6)
	flat, _, _ := planar.Certify(k4)
	turned := slices.Clone(k5.Edges)
	slices.Reverse(turned)
	for i, x := range []struct {
		g api.Graph
		r api.Rot
		w [][2]int
	}{
		{k4, nil, nil}, {k5, nil, nil}, {k4, flat, k5.Edges}, {k4, nil, k5.Edges}, {k5, make(api.Rot, 5), k5.Edges}, {k5, flat, k5.Edges}, {k5, nil, k5.Edges[1:]}, {k5, nil, turned},
		{k5, nil, append(slices.Clone(k5.Edges), [2]int{0, 1})}, {k6, nil, k6.Edges}, {k4, nil, [][2]int{{0, 1}}}, {k4, api.Rot{{1, 2, 3}, {0, 2, 3}, {0, 1, 3}, {0, 1, 2}}, nil},
		{api.Graph{}, nil, k5.Edges}, {api.Graph{N: 1}, nil, nil}, {samples.Petersen(), nil, k5.Edges}, {k5, nil, [][2]int{{-1, 9}}}, {api.Graph{}, make(api.Rot, 1), nil},
	} {
		if planar.Check(x.g, x.r, x.w) {
			t.Error(i, x)
		}
	}
	// Any twist in it will do, not only the one that is told.
	if !planar.Check(k6, nil, k5.Edges) || !planar.Check(samples.Beside(k5, k5), nil, k5.Edges) {
		t.Error("a twist that is not the first one")
	}
}

func TestMany(t *testing.T) {
	var d samples.Dice
	var yes, no int
	for n := 3; n <= 200; n += 2 {
		g := d.Planar(n, n+d.Roll(2*n))
		g = samples.Of(n, append(d.Any(n, d.Roll(3)).Edges, g.Edges...)...)
		r, w, e := planar.Certify(g)
		if e != api.OK || !planar.Check(g, r, w) || kura.Planar(g) != (len(w) == 0) {
			t.Error(g, r, w, e)
		}
		if len(w) == 0 {
			yes++
		} else {
			no++
			if f, _ := kura.Find(g); !slices.Equal(f, w) || len(r) != 0 {
				t.Error(g, w, f)
			}
		}
		again, same, _ := planar.Certify(g)
		if !reflect.DeepEqual(r, again) || !slices.Equal(w, same) {
			t.Error(g, "another certificate the second time")
		}
	}
	if yes < 20 || no < 20 {
		t.Error(yes, no)
	}
}
