package rigid_test

import (
	"bytes"
	"math"
	"reflect"
	"slices"
	"testing"
	"time"

	"fretwork/api"
	"fretwork/rigid"
	"fretwork/ring"
	"fretwork/samples"
)

// plain is a skin of circles without colours.
func plain(r api.Rot) api.Skin {
	s := api.Skin{Rot: r, Vert: make([][]byte, len(r)), Dart: make([][][]byte, len(r))}
	for v := range r {
		s.Dart[v] = make([][]byte, len(r[v]))
	}
	return s
}

// circles are those of a graph, by chance.
func circles(d *samples.Dice, g api.Graph) api.Rot {
	r := make(api.Rot, g.N)
	for _, i := range d.Perm(len(g.Edges)) {
		e := g.Edges[i]
		r[e[0]], r[e[1]] = append(r[e[0]], e[1]), append(r[e[1]], e[0])
	}
	return r
}

// coloured gives a skin few colours, by chance.
func coloured(d *samples.Dice, s api.Skin) api.Skin {
	for v := range s.Rot {
		s.Vert[v] = bytes.Repeat([]byte{'x'}, d.Roll(2))
		for i := range s.Dart[v] {
			s.Dart[v][i] = bytes.Repeat([]byte{'y'}, d.Roll(2))
		}
	}
	return s
}

// connected are connected skins of many shapes.
func connected(d *samples.Dice) []api.Skin {
	var out []api.Skin
	for _, g := range []api.Graph{samples.Ring(3), samples.Ring(7), samples.Complete(5), samples.Petersen(), samples.Prism(4), samples.Path(2), samples.Star(4), d.Tree(9), d.Strung(12)} {
		out = append(out, plain(circles(d, g)), coloured(d, plain(circles(d, g))))
	}
	return append(out, plain(api.Rot{{}}))
}

// bare is a ring of three.
func bare() api.Skin { return plain(api.Rot{{1, 2}, {0, 2}, {0, 1}}) }

func TestRight(t *testing.T) {
	var d samples.Dice
	for i, s := range connected(&d) {
		if !rigid.Right(s) {
			t.Error(i)
		}
	}
	if !rigid.Right(plain(circles(&d, samples.Ring(300)))) {
		t.Error("a large one")
	}
	for i, s := range wrongs(&d) {
		w, e := rigid.Walk(s, 0, 0, false)
		f, g := rigid.From(s, 0, 0)
		b, h := rigid.Best(s)
		if rigid.Right(s) || e != api.ErrSkin || g != api.ErrSkin || h != api.ErrSkin || w.Code != nil || w.Order != nil || f != nil || b != nil {
			t.Error(i, e, g, h)
		}
	}
	wide := bare()
	wide.Vert[0], wide.Dart[1][1] = make([]byte, api.MaxColor/2), make([]byte, api.MaxColor/2)
	if !rigid.Right(wide) {
		t.Error("as many colours as may be")
	}
}

// wrongs are some that are no right skins.
func wrongs(d *samples.Dice) []api.Skin {
	a, b, c, e, f := bare(), bare(), bare(), bare(), bare()
	a.Vert = a.Vert[1:]
	b.Dart = b.Dart[1:]
	c.Dart[1] = c.Dart[1][1:]
	e.Vert[0], e.Dart[1][1] = make([]byte, api.MaxColor/2), make([]byte, api.MaxColor/2+1)
	f.Dart[2] = append(f.Dart[2], nil)
	return []api.Skin{
		{}, plain(api.Rot{}), a, b, c, e, f, plain(api.Rot{{}, {}}), plain(api.Rot{{1}, {0}, {}}), plain(api.Rot{{1}, {0}, {3}, {2}}), plain(api.Rot{{1, 1}, {0, 0}}), plain(api.Rot{{0}}), plain(api.Rot{{1}, {}}),
		plain(api.Rot{{1}, {0, 2}, {0}}), plain(api.Rot{{-1}, {0}}), plain(api.Rot{{2}, {0}}), plain(api.Rot{{math.MaxInt}, {math.MinInt}}), plain(circles(d, samples.Ring(301))),
	}
}

func TestDarts(t *testing.T) {
	for _, x := range [][2]int{{-1, 0}, {3, 0}, {0, -1}, {0, 2}, {math.MinInt, math.MaxInt}} {
		w, e := rigid.Walk(bare(), x[0], x[1], true)
		f, g := rigid.From(bare(), x[0], x[1])
		if e != api.ErrSkin || g != api.ErrSkin || w.Code != nil || w.Order != nil || f != nil {
			t.Error(x, e, g)
		}
	}
	one := plain(api.Rot{{}})
	for _, x := range [][2]int{{0, 1}, {1, 0}, {-1, 0}, {0, -1}} {
		if _, e := rigid.Walk(one, x[0], x[1], false); e != api.ErrSkin {
			t.Error(x, e)
		}
	}
	one.Vert[0] = []byte("q")
	w, e := rigid.Walk(one, 0, 0, false)
	if e != api.OK || !bytes.Equal(w.Code, ring.Bytes([][]byte{[]byte("q"), {0, 0, 0, 0}})) || !slices.Equal(w.Order, []int{0}) {
		t.Error(w, e)
	}
	f, _ := rigid.From(one, 0, 0)
	if b, e := rigid.Best(one); e != api.OK || len(f) != 2 || len(b) != 2 || !reflect.DeepEqual(b[0], w) {
		t.Error(f, b, e)
	}
}

func TestExamples(t *testing.T) {
	two := plain(api.Rot{{1}, {0}})
	two.Vert = [][]byte{[]byte("a"), []byte("b")}
	w, e := rigid.Walk(two, 0, 0, false)
	want := ring.Bytes([][]byte{[]byte("a"), {0, 0, 0, 1}, {0, 0, 0, 1}, nil, []byte("b"), {0, 0, 0, 1}, {0, 0, 0, 0}, nil})
	if e != api.OK || !bytes.Equal(w.Code, want) || !slices.Equal(w.Order, []int{0, 1}) {
		t.Error(w, e)
	}
	if b, e := rigid.Best(two); e != api.OK || len(b) != 2 || !reflect.DeepEqual(b[0], w) || !reflect.DeepEqual(b[1], w) {
		t.Error(b, e)
	}
	if b, e := rigid.Best(bare()); e != api.OK || len(b) != 12 {
		t.Error(len(b), e)
	}
	// A longer colour comes behind a shorter one, whatever stands in it.
	two.Vert = [][]byte{[]byte("b"), []byte("aa")}
	if b, _ := rigid.Best(two); !slices.Equal(b[0].Order, []int{0, 1}) {
		t.Error(b)
	}
}

// plainWalk is the walk as the chapter words it.
func plainWalk(s api.Skin, v, i int, mirror bool) api.Walked {
	four := func(n int) []byte { return []byte{0, 0, byte(n / 256), byte(n)} }
	order, entered := []int{v}, []int{i}
	var words [][]byte
	for k := 0; k < len(order); k++ {
		v := order[k]
		n := len(s.Rot[v])
		words = append(words, s.Vert[v], four(n))
		at := entered[k]
		for range n {
			w := s.Rot[v][at]
			if !slices.Contains(order, w) {
				order = append(order, w)
				entered = append(entered, slices.Index(s.Rot[w], v))
			}
			words = append(words, four(slices.Index(order, w)), s.Dart[v][at])
			if mirror {
				at = (at - 1 + n) % n
			} else {
				at = (at + 1) % n
			}
		}
	}
	return api.Walked{Code: ring.Bytes(words), Order: order}
}

// least are those of walks with the least code.
func least(all []api.Walked) []api.Walked {
	var out []api.Walked
	for _, w := range all {
		if len(out) > 0 && bytes.Compare(w.Code, out[0].Code) < 0 {
			out = nil
		}
		if len(out) == 0 || bytes.Equal(w.Code, out[0].Code) {
			out = append(out, w)
		}
	}
	return out
}

func TestWalks(t *testing.T) {
	var d samples.Dice
	for _, s := range connected(&d) {
		var all []api.Walked
		for v := range s.Rot {
			for i := range s.Rot[v] {
				a, e := rigid.Walk(s, v, i, false)
				b, f := rigid.Walk(s, v, i, true)
				if e != api.OK || f != api.OK || !reflect.DeepEqual(a, plainWalk(s, v, i, false)) || !reflect.DeepEqual(b, plainWalk(s, v, i, true)) {
					t.Fatal(s, v, i)
				}
				all = append(all, a, b)
				if c, e := rigid.From(s, v, i); e != api.OK || !reflect.DeepEqual(c, least([]api.Walked{a, b})) {
					t.Error(s, v, i, c)
				}
			}
		}
		if b, e := rigid.Best(s); e != api.OK || len(all) > 0 && !reflect.DeepEqual(b, least(all)) {
			t.Error(s, b)
		}
	}
}

// called is a skin whose vertices are called anew, each circle beginning elsewhere; in the mirror, too, if mirror is true.
func called(d *samples.Dice, s api.Skin, p []int, mirror bool) api.Skin {
	out := plain(make(api.Rot, len(s.Rot)))
	for v, circle := range s.Rot {
		n := len(circle)
		turn := 0
		if n > 0 {
			turn = d.Roll(n)
		}
		for j := range n {
			i := (turn + j) % n
			if mirror {
				i = n - 1 - i
			}
			out.Rot[p[v]] = append(out.Rot[p[v]], p[circle[i]])
			out.Dart[p[v]] = append(out.Dart[p[v]], s.Dart[v][i])
		}
		out.Vert[p[v]] = s.Vert[v]
	}
	return out
}

func TestCalledAnew(t *testing.T) {
	var d samples.Dice
	for _, s := range connected(&d) {
		p := d.Perm(len(s.Rot))
		best, _ := rigid.Best(s)
		for _, mirror := range []bool{false, true} {
			other, e := rigid.Best(called(&d, s, p, mirror))
			if e != api.OK || len(other) != len(best) || !bytes.Equal(other[0].Code, best[0].Code) {
				t.Error(s, mirror, e)
			}
		}
	}
}

func TestNothingShared(t *testing.T) {
	s := bare()
	s.Vert[0] = []byte("a")
	b, _ := rigid.Best(s)
	for i := range b[0].Code {
		b[0].Code[i] = 'z'
	}
	b[0].Order[0] = 99
	if s.Vert[0][0] != 'a' || len(b) > 1 && (b[1].Code[0] == 'z' || b[1].Order[0] == 99) {
		t.Error(s, b)
	}
}

func TestLarge(t *testing.T) {
	var d samples.Dice
	begin := time.Now()
	for _, g := range []api.Graph{samples.Ring(300), samples.Complete(60), d.Triangles(300), samples.Prism(150)} {
		if b, e := rigid.Best(plain(circles(&d, g))); e != api.OK || len(b) == 0 {
			t.Error(g.N, len(b), e)
		}
	}
	if took := time.Since(begin); took > 60*time.Second {
		t.Error(took)
	}
}
