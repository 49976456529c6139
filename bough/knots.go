package bough

import (
	"cmp"
	"slices"

	"fretwork/api"
	"fretwork/fours"
	"fretwork/limb"
)

// block is a block: its edges, the cut vertex by which it hangs, or -1, and the knots of those that hang on it. Its order is known when it is weighed.
type block struct {
	edges [][2]int
	up    int
	cuts  map[int]int
	order []int
}

// cut is a cut vertex, and the knots of the blocks that hang on it.
type cut struct {
	vertex int
	blocks []int
}

// weigh tells the block's code, its cut vertices being tinted by their worths.
func (b *block) weigh(t *tree) ([]byte, api.Errno) {
	var l []api.Link
	var verts []int
	for _, e := range b.edges {
		l = append(l, api.Link{A: e[0], B: e[1]})
		verts = append(verts, e[0], e[1])
	}
	slices.Sort(verts)
	verts = slices.Compact(verts)
	// Three kinds of tints: of the vertex above, of those below, of all others.
	tints := make([]int, len(verts))
	for i, v := range verts {
		k, below := b.cuts[v]
		switch {
		case v == b.up:
		case below:
			tints[i] = 1 + t.worth[k]
		default:
			tints[i] = 1 + len(t.knots) + t.place(v)
		}
	}
	n, e := limb.Canon(l, tints)
	b.order = n.Order
	return n.Code, e
}

// visit meets the block's vertices, and then what hangs on each, in the block's order.
func (b *block) visit(t *tree, meet func(v int)) {
	for _, v := range b.order {
		meet(v)
	}
	for _, v := range b.order {
		if k, below := b.cuts[v]; below {
			t.knots[k].visit(t, meet)
		}
	}
}

// weigh tells the vertex' tint, and what its blocks are worth, in order.
func (c *cut) weigh(t *tree) ([]byte, api.Errno) {
	code := fours.Put(nil, t.tints[c.vertex])
	for _, k := range c.ordered(t) {
		code = fours.Put(code, t.worth[k])
	}
	return code, api.OK
}

// visit meets the vertex, and then its blocks, in order.
func (c *cut) visit(t *tree, meet func(v int)) {
	meet(c.vertex)
	for _, k := range c.ordered(t) {
		t.knots[k].visit(t, meet)
	}
}

// ordered is the knots of the blocks by what they are worth.
func (c *cut) ordered(t *tree) []int {
	return slices.SortedFunc(slices.Values(c.blocks), func(a, b int) int {
		return cmp.Compare(t.worth[a], t.worth[b])
	})
}
