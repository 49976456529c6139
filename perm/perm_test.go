package perm_test

import (
	"math"
	"reflect"
	"slices"
	"testing"

	"fretwork/api"
	"fretwork/graph"
	"fretwork/perm"
	"fretwork/samples"
)

// wrongs are some that are no permutations.
func wrongs() [][]int {
	many := make([]int, 201)
	for i := range many {
		many[i] = i
	}
	return [][]int{{0, 0}, {1}, {-1}, {0, 2}, {0, 1, 1}, {math.MinInt, 0}, {math.MaxInt, 0}, many}
}

// rights are permutations of many lengths.
func rights() [][]int {
	var d samples.Dice
	out := [][]int{nil, {}, {0}, {1, 0}, {1, 2, 0, 3}}
	for n := 3; n <= 200; n += 13 {
		out = append(out, d.Perm(n), perm.Identity(n))
	}
	return append(out, d.Perm(200))
}

func TestRight(t *testing.T) {
	for i, p := range wrongs() {
		if perm.Right(p) {
			t.Error(i, p)
		}
	}
	for i, p := range rights() {
		if !perm.Right(p) {
			t.Error(i, p)
		}
	}
}

func TestWrong(t *testing.T) {
	for i, p := range wrongs() {
		a, e1 := perm.Compose(p, p)
		b, e2 := perm.Compose(p, perm.Identity(len(p)))
		c, e3 := perm.Compose(perm.Identity(len(p)), p)
		d, e4 := perm.Invert(p)
		e, e5 := perm.Power(p, 0)
		f, e6 := perm.Cycles(p)
		n, e7 := perm.Order(p)
		g, e8 := perm.Apply(api.Graph{N: len(p)}, p)
		for j, x := range []api.Errno{e1, e2, e3, e4, e5, e6, e7} {
			if x != api.ErrPerm {
				t.Error(i, j, x)
			}
		}
		if a != nil || b != nil || c != nil || d != nil || e != nil || f != nil || n != 0 || g.N != 0 || e8 == api.OK {
			t.Error(i, "something beside an error", e8)
		}
	}
	if p, e := perm.Compose([]int{1, 0}, []int{0}); e != api.ErrPerm || p != nil {
		t.Error(p, e)
	}
}

func TestIdentity(t *testing.T) {
	for _, n := range []int{-1, 201, math.MinInt, math.MaxInt, 0} {
		if p := perm.Identity(n); len(p) != 0 {
			t.Error(n, p)
		}
	}
	if p := perm.Identity(3); !slices.Equal(p, []int{0, 1, 2}) || len(perm.Identity(200)) != 200 {
		t.Error(p)
	}
}

func TestExamples(t *testing.T) {
	p, q := []int{1, 2, 0}, []int{1, 0, 2}
	if r, e := perm.Compose(p, q); e != api.OK || !slices.Equal(r, []int{0, 2, 1}) {
		t.Error(r, e)
	}
	if r, e := perm.Invert(p); e != api.OK || !slices.Equal(r, []int{2, 0, 1}) {
		t.Error(r, e)
	}
	for _, k := range []int{-1, 2, 5, -4} {
		if r, e := perm.Power(p, k); e != api.OK || !slices.Equal(r, []int{2, 0, 1}) {
			t.Error(k, r, e)
		}
	}
	if c, e := perm.Cycles([]int{1, 2, 0, 3}); e != api.OK || !reflect.DeepEqual(c, [][]int{{0, 1, 2}, {3}}) {
		t.Error(c, e)
	}
	if n, e := perm.Order([]int{1, 2, 0, 3}); e != api.OK || n != 3 {
		t.Error(n, e)
	}
	if n, e := perm.Order(nil); e != api.OK || n != 1 {
		t.Error(n, e)
	}
	if c, e := perm.Cycles(nil); e != api.OK || len(c) != 0 {
		t.Error(c, e)
	}
	if g, e := perm.Apply(samples.Path(3), p); e != api.OK || !samples.Same(g, samples.Of(3, [2]int{0, 2}, [2]int{1, 2})) {
		t.Error(g, e)
	}
}

func TestTogether(t *testing.T) {
	var d samples.Dice
	for _, p := range rights() {
		n := len(p)
		q, r := d.Perm(n), d.Perm(n)
		pq, _ := perm.Compose(p, q)
		qr, _ := perm.Compose(q, r)
		left, _ := perm.Compose(pq, r)
		right, _ := perm.Compose(p, qr)
		if !slices.Equal(left, right) {
			t.Error(n, "not the same put together otherwise")
		}
		back, _ := perm.Invert(p)
		both, _ := perm.Compose(p, back)
		if !slices.Equal(both, perm.Identity(n)) {
			t.Error(n, both)
		}
		i, j := d.Roll(1000)-500, d.Roll(1000)-500
		a, _ := perm.Power(p, i)
		b, _ := perm.Power(p, j)
		ab, _ := perm.Compose(a, b)
		if sum, _ := perm.Power(p, i+j); !slices.Equal(sum, ab) {
			t.Error(n, i, j)
		}
	}
}

func TestPower(t *testing.T) {
	for _, p := range rights() {
		done := perm.Identity(len(p))
		for k := range 7 {
			if r, e := perm.Power(p, k); e != api.OK || !slices.Equal(r, done) {
				t.Error(len(p), k, e)
			}
			done, _ = perm.Compose(done, p)
		}
		back, _ := perm.Power(p, math.MinInt)
		half, _ := perm.Power(p, math.MaxInt)
		one, _ := perm.Power(p, 1)
		one, _ = perm.Compose(one, half)
		if one, _ = perm.Compose(one, back); !slices.Equal(one, perm.Identity(len(p))) {
			t.Error(len(p), "the greatest powers")
		}
	}
}

func TestCyclesAndOrder(t *testing.T) {
	for _, p := range rights() {
		c, e := perm.Cycles(p)
		met, last := 0, -1
		for _, l := range c {
			for i, v := range l {
				if p[v] != l[(i+1)%len(l)] || v < l[0] {
					t.Error(len(p), l)
				}
			}
			if l[0] <= last {
				t.Error(len(p), c)
			}
			met, last = met+len(l), l[0]
		}
		n, f := perm.Order(p)
		one, _ := perm.Power(p, n)
		if e != api.OK || f != api.OK || met != len(p) || !slices.Equal(one, perm.Identity(len(p))) {
			t.Error(len(p), met, n, e, f)
		}
		for _, l := range c {
			if n%len(l) != 0 {
				t.Error(n, len(l))
			}
		}
	}
	var p []int // cycles of 2, 3, 5, 7 and 11 things
	for _, n := range []int{2, 3, 5, 7, 11} {
		first := len(p)
		for i := range n {
			p = append(p, first+(i+1)%n)
		}
	}
	if n, _ := perm.Order(p); n != 2310 {
		t.Error(n)
	}
	for k := 1; k < 2310; k++ {
		if r, _ := perm.Power(p, k); slices.Equal(r, perm.Identity(28)) {
			t.Error(k)
		}
	}
}

func TestApply(t *testing.T) {
	var d samples.Dice
	for n := 2; n <= 200; n += 11 {
		g := d.Any(n, 2*n)
		p, q := d.Perm(n), d.Perm(n)
		h, e := perm.Apply(g, p)
		if e != api.OK || !graph.Right(h) || !samples.Same(h, samples.Called(g, p)) {
			t.Error(n, e)
		}
		both, _ := perm.Compose(p, q)
		once, _ := perm.Apply(g, both)
		if twice, _ := perm.Apply(h, q); !samples.Same(once, twice) {
			t.Error(n)
		}
	}
	for i, x := range []struct {
		g    api.Graph
		p    []int
		want api.Errno
	}{
		{api.Graph{N: -1}, nil, api.ErrGraph}, {api.Graph{N: 2, Edges: [][2]int{{1, 0}}}, []int{0, 0}, api.ErrGraph}, {api.Graph{N: 201}, nil, api.ErrGraph},
		{samples.Path(3), []int{0, 1}, api.ErrPerm}, {samples.Path(3), []int{0, 1, 1}, api.ErrPerm}, {samples.Path(2), []int{0, 1, 2}, api.ErrPerm}, {samples.Path(3), nil, api.ErrPerm},
	} {
		if g, e := perm.Apply(x.g, x.p); e != x.want || g.N != 0 || g.Edges != nil {
			t.Error(i, g, e)
		}
	}
}

func TestNothingShared(t *testing.T) {
	p := []int{1, 2, 0, 3}
	g := samples.Ring(4)
	c, _ := perm.Cycles(p)
	_ = append(c[0], 9)
	c[0][0] = 9
	i, _ := perm.Power(p, 1)
	h, _ := perm.Apply(g, perm.Identity(4))
	i[0], h.Edges[0][0] = 9, 9
	if !slices.Equal(p, []int{1, 2, 0, 3}) || !samples.Same(g, samples.Ring(4)) || c[1][0] != 3 {
		t.Error(p, g, c)
	}
}
