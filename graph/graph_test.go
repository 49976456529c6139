package graph_test

import (
	"bytes"
	"math"
	"reflect"
	"slices"
	"strconv"
	"strings"
	"testing"

	"fretwork/api"
	"fretwork/graph"
	"fretwork/samples"
	"fretwork/strand"
)

// wrongs are some that are no right graphs.
func wrongs() []api.Graph {
	many := samples.Complete(36).Edges[:api.MaxM+1]
	return []api.Graph{
		{N: -1}, {N: math.MinInt}, {N: 201}, {N: math.MaxInt}, {N: 200, Edges: many},
		{N: 3, Edges: [][2]int{{0, 0}}}, {N: 3, Edges: [][2]int{{1, 0}}}, {N: 3, Edges: [][2]int{{0, 3}}}, {N: 3, Edges: [][2]int{{-1, 2}}},
		{N: 3, Edges: [][2]int{{0, 1}, {0, 1}}}, {N: 3, Edges: [][2]int{{0, 2}, {0, 1}}}, {N: 3, Edges: [][2]int{{1, 2}, {0, 1}}}, {Edges: [][2]int{{0, 1}}},
	}
}

// largest is a graph of as much as there may be.
func largest() api.Graph {
	return api.Graph{N: 200, Edges: samples.Complete(36).Edges[:api.MaxM]}
}

// rights are right graphs of many shapes.
func rights() []api.Graph {
	var d samples.Dice
	out := []api.Graph{{}, {Edges: [][2]int{}}, {N: 200}, largest(), samples.Petersen()}
	for n := 1; n <= 200; n += 7 {
		out = append(out, d.Any(n, d.Roll(3*n)), d.Tree(n))
	}
	return out
}

func zero(g api.Graph) bool { return g.N == 0 && g.Edges == nil }

func TestRight(t *testing.T) {
	for i, g := range wrongs() {
		b, e := graph.Bytes(g)
		s, f := graph.Text(g)
		if graph.Right(g) || e != api.ErrGraph || f != api.ErrGraph || b != nil || s != "" || graph.Beside(g) != nil || graph.Has(g, 0, 1) {
			t.Error(i, g.N, e, f)
		}
	}
	for i, g := range rights() {
		if !graph.Right(g) {
			t.Error(i, g.N)
		}
	}
}

func TestNew(t *testing.T) {
	g, e := graph.New(4, [][2]int{{3, 1}, {2, 0}, {0, 1}, {3, 0}})
	if e != api.OK || !samples.Same(g, api.Graph{N: 4, Edges: [][2]int{{0, 1}, {0, 2}, {0, 3}, {1, 3}}}) {
		t.Error(g, e)
	}
	for _, x := range []struct {
		n     int
		edges [][2]int
		want  api.Errno
	}{
		{201, nil, api.ErrLarge}, {math.MaxInt, [][2]int{{0, 0}}, api.ErrLarge}, {-1, make([][2]int, api.MaxM+1), api.ErrLarge}, {2, make([][2]int, api.MaxM+1), api.ErrLarge},
		{-1, nil, api.ErrGraph}, {math.MinInt, nil, api.ErrGraph}, {2, [][2]int{{0, 2}}, api.ErrGraph}, {2, [][2]int{{-1, 1}}, api.ErrGraph}, {2, [][2]int{{1, -1}}, api.ErrGraph},
		{2, [][2]int{{1, 1}}, api.ErrGraph}, {3, [][2]int{{0, 1}, {1, 2}, {1, 0}}, api.ErrGraph}, {3, [][2]int{{0, 1}, {0, 1}}, api.ErrGraph}, {0, [][2]int{{0, 1}}, api.ErrGraph},
	} {
		if g, e := graph.New(x.n, x.edges); e != x.want || !zero(g) {
			t.Error(x.n, len(x.edges), e)
		}
	}
	for _, g := range rights() {
		turned := slices.Clone(g.Edges)
		slices.Reverse(turned)
		for i := range turned {
			turned[i][0], turned[i][1] = turned[i][1], turned[i][0]
		}
		before := slices.Clone(turned)
		h, e := graph.New(g.N, turned)
		if e != api.OK || !samples.Same(g, h) || !slices.Equal(before, turned) {
			t.Error(g.N, e)
		}
	}
}

func TestBytes(t *testing.T) {
	g := samples.Of(3, [2]int{0, 1}, [2]int{0, 2})
	if b, e := graph.Bytes(g); e != api.OK || !bytes.Equal(b, []byte{35, 171, 128}) {
		t.Error(b, e)
	}
	seen := map[string]api.Graph{}
	for _, g := range rights() {
		b, e := graph.Bytes(g)
		h, f := graph.Read(b)
		if e != api.OK || f != api.OK || !samples.Same(g, h) {
			t.Error(g.N, e, f)
		}
		if other, ok := seen[string(b)]; ok && !samples.Same(g, other) {
			t.Error("two graphs of the same bytes")
		}
		seen[string(b)] = g
	}
}

// bytesOf packs knots of numbers.
func bytesOf(ns ...uint64) []byte {
	var s api.Strand
	for _, n := range ns {
		s, _ = strand.Knot(s, n)
	}
	b, _ := strand.Pack(s)
	return b
}

func TestReadWrong(t *testing.T) {
	for i, b := range [][]byte{
		nil, {}, {0}, {128}, {255}, make([]byte, 1<<20), bytesOf(3), bytesOf(3, 1), bytesOf(3, 1, 0), bytesOf(3, 0, 0), bytesOf(3, 1, 0, 1, 0),
		bytesOf(3, 1, 1, 0), bytesOf(3, 1, 1, 1), bytesOf(3, 1, 0, 3), bytesOf(3, 2, 0, 2, 0, 1), bytesOf(3, 2, 0, 1, 0, 1),
		bytesOf(201, 0), bytesOf(1<<63, 0), bytesOf(0, 1<<63), bytesOf(3, math.MaxUint64-1), bytesOf(3, 1, 0, 1<<63+1), append(bytesOf(3, 0), 128), append(make([]byte, 30), 1),
	} {
		if g, e := graph.Read(b); e != api.ErrGraph || !zero(g) {
			t.Error(i, b, g, e)
		}
	}
}

// FuzzRead holds whatever is read against its own bytes.
func FuzzRead(f *testing.F) {
	f.Add([]byte{35, 171, 128})
	f.Fuzz(func(t *testing.T, b []byte) {
		g, e := graph.Read(b)
		if again, _ := graph.Bytes(g); e == api.OK && !bytes.Equal(again, b) {
			t.Error(b, again)
		}
		if e != api.OK && e != api.ErrGraph {
			t.Error(e)
		}
	})
}

func TestText(t *testing.T) {
	g, e := graph.Parse("3 2\n2 0\n0 1\n")
	if e != api.OK || !samples.Same(g, samples.Of(3, [2]int{0, 1}, [2]int{0, 2})) {
		t.Error(g, e)
	}
	if s, e := graph.Text(g); e != api.OK || s != "3 2\n0 1\n0 2\n" {
		t.Error(s, e)
	}
	for _, g := range rights() {
		s, e := graph.Text(g)
		h, f := graph.Parse(s)
		if e != api.OK || f != api.OK || !samples.Same(g, h) || !strings.HasPrefix(s, strconv.Itoa(g.N)+" "+strconv.Itoa(len(g.Edges))+"\n") {
			t.Error(g.N, e, f)
		}
	}
}

func TestParseWrong(t *testing.T) {
	for s, want := range map[string]api.Errno{
		"": api.ErrGraph, "\n": api.ErrGraph, "2\n": api.ErrGraph, "2 0": api.ErrGraph, "2  0\n": api.ErrGraph, " 2 0\n": api.ErrGraph, "2 0 \n": api.ErrGraph, "2 0\r\n": api.ErrGraph,
		"03 0\n": api.ErrGraph, "3 00\n": api.ErrGraph, "-1 0\n": api.ErrGraph, "+1 0\n": api.ErrGraph, "2\t0\n": api.ErrGraph, "2 0 0\n": api.ErrGraph, "x 0\n": api.ErrGraph, "２ 0\n": api.ErrGraph,
		"2 1\n0 0\n": api.ErrGraph, "2 2\n0 1\n1 0\n": api.ErrGraph, "2 1\n0 2\n": api.ErrGraph, "2 1\n": api.ErrGraph, "2 1\n0 1": api.ErrGraph, "2 1\n0 1\n\n": api.ErrGraph, "2 0\n0 1\n": api.ErrGraph,
		"2 1\n0 01\n": api.ErrGraph, "2 1\n0 1000000000\n": api.ErrGraph, "1000000000 0\n": api.ErrGraph, "2 1000000000\n": api.ErrGraph, "201 0": api.ErrGraph, "2 1\n0 -1\n": api.ErrGraph,
		"201 0\n": api.ErrLarge, "999999999 0\n": api.ErrLarge, "2 595\n": api.ErrLarge, "2 999999999\nx": api.ErrLarge, "201 1\n0 0\n": api.ErrLarge,
	} {
		if g, e := graph.Parse(s); e != want || !zero(g) {
			t.Errorf("%q: %v %v", s, g, e)
		}
	}
	if g, e := graph.Parse("0 0\n"); e != api.OK || g.N != 0 {
		t.Error(g, e)
	}
}

func TestBeside(t *testing.T) {
	if l := graph.Beside(samples.Of(3, [2]int{0, 1}, [2]int{0, 2})); !reflect.DeepEqual(l, [][]int{{1, 2}, {0}, {0}}) {
		t.Error(l)
	}
	for _, g := range rights() {
		l := graph.Beside(g)
		ends := 0
		for v, row := range l {
			ends += len(row)
			if !slices.IsSorted(row) {
				t.Error(g.N, v, row)
			}
			for _, w := range row {
				if !slices.Contains(l[w], v) || !graph.Has(g, v, w) || !graph.Has(g, w, v) {
					t.Error(g.N, v, w)
				}
			}
		}
		if len(l) != g.N || ends != 2*len(g.Edges) {
			t.Error(g.N, len(l), ends)
		}
	}
	for _, x := range [][2]int{{1, 2}, {0, 0}, {-1, 0}, {0, 3}, {math.MinInt, math.MaxInt}} {
		if graph.Has(samples.Of(3, [2]int{0, 1}, [2]int{0, 2}), x[0], x[1]) {
			t.Error(x)
		}
	}
}
