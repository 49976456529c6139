package split_test

import (
	"math"
	"reflect"
	"slices"
	"testing"
	"time"

	"fretwork/api"
	"fretwork/links"
	"fretwork/pair"
	"fretwork/samples"
	"fretwork/split"
)

func link(a, b, v int) api.Link { return api.Link{A: a, B: b, V: v} }

func TestExamples(t *testing.T) {
	p, n, e := split.Split(samples.Links(samples.Ring(4)), 1)
	want := [][]api.Link{{link(0, 1, 0), link(0, 2, 1), link(1, 2, 0)}, {link(0, 2, 1), link(0, 3, 0), link(2, 3, 0)}}
	if e != api.OK || n != 2 || !reflect.DeepEqual(p, want) {
		t.Error(p, n, e)
	}
	p, n, e = split.Split([]api.Link{link(3, 4, 0), link(3, 4, 1), link(3, 4, 2), link(3, 4, 3)}, 5)
	want = [][]api.Link{{link(3, 4, 0), link(3, 4, 1), link(3, 4, 5)}, {link(3, 4, 2), link(3, 4, 3), link(3, 4, 5)}}
	if e != api.OK || n != 6 || !reflect.DeepEqual(p, want) {
		t.Error(p, n, e)
	}
	for _, l := range [][]api.Link{{link(0, 1, 0)}, {link(0, 1, 0), link(0, 1, 4)}, samples.Links(samples.Ring(3)), samples.Links(samples.Complete(4)), samples.Links(samples.Petersen())} {
		if p, n, e := split.Split(l, 7); e != api.OK || n != 7 || !reflect.DeepEqual(p, [][]api.Link{l}) {
			t.Error(p, n, e)
		}
	}
}

func TestErrors(t *testing.T) {
	ring := samples.Links(samples.Ring(4))
	for i, x := range []struct {
		l    []api.Link
		next int
		want api.Errno
	}{
		{nil, 1, api.ErrTwo}, {samples.Links(samples.Path(3)), 0, api.ErrTwo}, {[]api.Link{link(1, 0, 0)}, 1, api.ErrTwo}, {ring, 0, api.ErrLinks}, {ring, -1, api.ErrLinks}, {ring, math.MinInt, api.ErrLinks},
		{ring, math.MaxInt, api.ErrLinks}, {ring, api.MaxVertex - api.MaxLinks + 1, api.ErrLinks}, {[]api.Link{link(0, 1, 0), link(0, 1, 3)}, 3, api.ErrLinks}, {[]api.Link{link(0, 1, 9)}, 3, api.ErrLinks},
	} {
		if p, n, e := split.Split(x.l, x.next); e != x.want || p != nil || n != 0 {
			t.Error(i, p, n, e)
		}
	}
	if p, n, e := split.Split(ring, api.MaxVertex-api.MaxLinks); e != api.OK || len(p) != 2 || n != api.MaxVertex-api.MaxLinks+1 {
		t.Error(p, n, e)
	}
}

// plainSplit splits as the chapter words it.
func plainSplit(l []api.Link, next int) ([][]api.Link, int) {
	a, b, ok, _ := pair.First(l)
	if !ok {
		return [][]api.Link{l}, next
	}
	classes, _ := pair.Classes(l, a, b)
	chosen := classes[:2]
	for i, c := range classes {
		if len(c) >= 2 && len(l)-len(c) >= 2 {
			chosen = classes[i : i+1]
			break
		}
	}
	one := slices.Concat(append(chosen, []api.Link{link(a, b, next)})...)
	other := []api.Link{link(a, b, next)}
	for _, x := range l {
		if !slices.Contains(one, x) {
			other = append(other, x)
		}
	}
	left, mid := plainSplit(links.Sorted(one), next+1)
	right, end := plainSplit(links.Sorted(other), mid)
	return append(left, right...), end
}

// some are two-connected links by chance, with some side by side.
func some(d *samples.Dice) []api.Link {
	l := samples.Links(d.Strung(3 + d.Roll(15)))
	for range d.Roll(6) {
		x := l[d.Roll(len(l))]
		l = append(l, link(x.A, x.B, 1+d.Roll(9)))
	}
	return slices.Compact(links.Sorted(l))
}

func TestSplit(t *testing.T) {
	var d samples.Dice
	for range 400 {
		l := some(&d)
		kept := slices.Clone(l)
		p, n, e := split.Split(l, 10)
		want, end := plainSplit(slices.Clone(l), 10)
		if e != api.OK || n != end || !reflect.DeepEqual(p, want) || !slices.Equal(l, kept) || len(p) != n-10+1 || len(l) > 1 && len(p) >= len(l) {
			t.Fatal(l, p, n, e)
		}
		for _, x := range p {
			if _, _, parts, e := pair.First(x); e != api.OK || parts {
				t.Error(l, x, e)
			}
		}
		rejoin(t, &d, l, p, n)
	}
}

// rejoin joins parts again, in any order.
func rejoin(t *testing.T, d *samples.Dice, l []api.Link, p [][]api.Link, n int) {
	t.Helper()
	for _, k := range d.Perm(n - 10) {
		v := 10 + k
		var with []int
		for i, x := range p {
			if slices.ContainsFunc(x, func(y api.Link) bool { return y.V == v }) {
				with = append(with, i)
			}
		}
		if len(with) != 2 {
			t.Fatal(l, v, with)
		}
		j, e := split.Join(p[with[0]], p[with[1]], v)
		if e != api.OK {
			t.Fatal(l, v, e)
		}
		p[with[0]] = j
		p = slices.Delete(p, with[1], with[1]+1)
	}
	if len(p) != 1 || !slices.Equal(p[0], l) {
		t.Error(l, p)
	}
}

func TestJoinWrong(t *testing.T) {
	a := []api.Link{link(0, 1, 0), link(0, 2, 1), link(1, 2, 0)}
	b := []api.Link{link(0, 2, 1), link(0, 3, 0), link(2, 3, 0)}
	if l, e := split.Join(a, b, 1); e != api.OK || !slices.Equal(l, samples.Links(samples.Ring(4))) {
		t.Error(l, e)
	}
	for i, x := range []struct {
		a, b []api.Link
		v    int
	}{
		{a, b, 2}, {a, b, 0}, {a, b, -1}, {a, a, 1}, {a, b[1:], 1}, {a[:1], b, 1}, {nil, nil, 1}, {a, []api.Link{link(0, 1, 1)}, 1}, {a, []api.Link{link(0, 2, 1), link(0, 3, 1)}, 1}, {[]api.Link{link(0, 2, 1), link(0, 3, 1)}, a, 1},
		{a, []api.Link{link(1, 2, 0), link(0, 2, 1)}, 1}, {[]api.Link{link(2, 0, 1)}, b, 1}, {a, b, math.MaxInt}, {a, []api.Link{link(0, 1, 0), link(0, 2, 1)}, 1},
	} {
		if l, e := split.Join(x.a, x.b, x.v); e != api.ErrLinks || l != nil {
			t.Error(i, l, e)
		}
	}
	if l, e := split.Join([]api.Link{link(0, 1, 3)}, []api.Link{link(0, 1, 3)}, 3); e != api.OK || len(l) != 0 {
		t.Error(l, e)
	}
	room := append(make([]api.Link, 0, 9), a...)
	split.Join(room[:3], b, 1)
	split.Split(room[:3], 2)
	if !slices.Equal(room[:4], append(slices.Clone(a), api.Link{})) {
		t.Error(room[:4])
	}
}

func TestLarge(t *testing.T) {
	var side []api.Link
	for i := range api.MaxLinks {
		side = append(side, link(0, 1, i))
	}
	begin := time.Now()
	for _, l := range [][]api.Link{samples.Links(samples.Ring(1000)), side, samples.Links(samples.Bipartite(2, 500)), samples.Links(samples.Grid(22, 22))} {
		p, n, e := split.Split(l, 1001)
		if e != api.OK || len(p) != n-1000 || len(p) >= len(l) {
			t.Error(len(l), len(p), n, e)
		}
	}
	if took := time.Since(begin); took > 60*time.Second {
		t.Error(took)
	}
}
