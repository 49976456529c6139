package bough

import (
	"bytes"
	"slices"

	"fretwork/api"
	"fretwork/blocks"
)

// knot is a block, or a cut vertex, and what hangs on it.
type knot interface {
	// weigh tells a code of all that hangs on the knot, the knots below being weighed.
	weigh(t *tree) ([]byte, api.Errno)
	// visit meets the knot's vertices, and all that hang on it.
	visit(t *tree, meet func(v int))
}

// tree is a connected graph's blocks and cut vertices, seen from their centre.
type tree struct {
	tints []int
	// rising are all tints there are, each once.
	rising []int
	knots  []knot
	// levels are the knots of each distance from the centre, by their places.
	levels [][]int
	// worth is, of each knot, the place of its code among all of its distance.
	worth []int
}

// rooted is the tree of a right coloured graph of two vertices at least.
func rooted(g api.Graph, tints []int) *tree {
	b, _ := blocks.Tree(g)
	isBlock, first := blocks.Centre(b)
	t := &tree{tints: tints, worth: make([]int, len(b.Blocks)+len(b.Cuts))}
	t.rising = slices.Compact(slices.Sorted(slices.Values(tints)))
	beside := make([][]int, len(t.worth))
	for _, l := range b.Links {
		x, y := l[0], len(b.Blocks)+l[1]
		beside[x], beside[y] = append(beside[x], y), append(beside[y], x)
	}
	if !isBlock {
		first += len(b.Blocks)
	}
	below, up := t.level(beside, first)
	for i, edges := range b.Blocks {
		k := &block{edges: edges, up: -1, cuts: map[int]int{}}
		if up[i] >= 0 {
			k.up = b.Cuts[up[i]-len(b.Blocks)]
		}
		for _, c := range below[i] {
			k.cuts[b.Cuts[c-len(b.Blocks)]] = c
		}
		t.knots = append(t.knots, k)
	}
	for j, v := range b.Cuts {
		t.knots = append(t.knots, &cut{vertex: v, blocks: below[len(b.Blocks)+j]})
	}
	return t
}

// level puts the knots into their levels, from the centre on, and tells of each which ones hang on it, and on which one it hangs, or -1.
func (t *tree) level(beside [][]int, centre int) ([][]int, []int) {
	below, up := make([][]int, len(beside)), slices.Repeat([]int{-1}, len(beside))
	for level := []int{centre}; len(level) > 0; {
		t.levels = append(t.levels, level)
		var next []int
		for _, i := range level {
			for _, j := range beside[i] {
				if j != up[i] {
					up[j] = i
					below[i] = append(below[i], j)
					next = append(next, j)
				}
			}
		}
		level = next
	}
	return below, up
}

// place is the place of a vertex' tint among all.
func (t *tree) place(v int) int {
	at, _ := slices.BinarySearch(t.rising, t.tints[v])
	return at
}

// weigh weighs all knots, from the farthest ones on.
func (t *tree) weigh() api.Errno {
	for _, level := range slices.Backward(t.levels) {
		codes := make([][]byte, len(level))
		for i, k := range level {
			code, e := t.knots[k].weigh(t)
			if e != api.OK {
				return e
			}
			codes[i] = code
		}
		sorted := slices.SortedFunc(slices.Values(codes), bytes.Compare)
		sorted = slices.CompactFunc(sorted, bytes.Equal)
		for i, k := range level {
			t.worth[k], _ = slices.BinarySearchFunc(sorted, codes[i], bytes.Compare)
		}
	}
	return api.OK
}

// told is the order in which the vertices are met from the centre on.
func (t *tree) told() []int {
	met := make([]bool, len(t.tints))
	var out []int
	meet := func(v int) {
		if !met[v] {
			met[v] = true
			out = append(out, v)
		}
	}
	t.knots[t.levels[0][0]].visit(t, meet)
	return out
}
