package limb

import (
	"bytes"
	"slices"

	"fretwork/api"
	"fretwork/links"
	"fretwork/part"
	"fretwork/spqr"
)

// side is a part, and which way the link is gone by which it hangs on the next one.
type side struct {
	part  int
	there bool
}

// tree is parts, seen from their centre.
type tree struct {
	parts []api.Part
	tints map[int]int
	// centre is one part, or two that hang on one another.
	centre []int
	// levels are the parts of each depth.
	levels [][]int
	// by is the number by which each part hangs, or 0; hangs is, of each number, the part that hangs by it.
	by    []int
	hangs map[int]int
	looks map[side]api.Seen
	// worth is the place of a look's code among all of its depth.
	worth map[side]int
}

// rooted is the tree of right parts.
func rooted(parts []api.Part) *tree {
	t := &tree{
		parts: parts, centre: spqr.Centre(parts), by: make([]int, len(parts)),
		tints: map[int]int{}, hangs: map[int]int{}, looks: map[side]api.Seen{}, worth: map[side]int{},
	}
	has := map[int][]int{}
	for i, p := range parts {
		for _, x := range p.Links {
			has[x.V] = append(has[x.V], i)
		}
	}
	if len(t.centre) == 2 {
		v := t.between(t.centre[0], t.centre[1])
		t.by[t.centre[0]], t.by[t.centre[1]] = v, v
	}
	for level := t.centre; len(level) > 0; {
		t.levels = append(t.levels, level)
		var next []int
		for _, i := range level {
			for _, x := range parts[i].Links {
				if x.V == 0 || x.V == t.by[i] {
					continue
				}
				j := has[x.V][0] + has[x.V][1] - i
				t.by[j], t.hangs[x.V] = x.V, j
				next = append(next, j)
			}
		}
		level = next
	}
	return t
}

// between is the number that two parts have in common.
func (t *tree) between(i, j int) int {
	for _, x := range t.parts[i].Links {
		if x.V > 0 && slices.Contains(t.parts[j].Links, x) {
			return x.V
		}
	}
	return 0
}

// weigh looks at each part that hangs, depth by depth, from the deepest one on: there, and back.
func (t *tree) weigh() api.Errno {
	refused := api.OK
depths:
	for _, level := range slices.Backward(t.levels) {
		var codes [][]byte
		for _, i := range level {
			if t.by[i] == 0 {
				break depths
			}
			for _, there := range [...]bool{true, false} {
				s, e := part.From(t.dress(i), t.place(i, t.by[i]), there)
				if e != api.OK {
					refused = e
					break depths
				}
				t.looks[side{i, there}] = s
				codes = append(codes, s.Code)
			}
		}
		slices.SortFunc(codes, bytes.Compare)
		codes = slices.CompactFunc(codes, bytes.Equal)
		for _, i := range level {
			for _, there := range [...]bool{true, false} {
				at := side{i, there}
				t.worth[at], _ = slices.BinarySearchFunc(codes, t.looks[at].Code, bytes.Compare)
			}
		}
	}
	return refused
}

// place is the place of a number among the links of a part.
func (t *tree) place(i, v int) int {
	return slices.IndexFunc(t.parts[i].Links, func(x api.Link) bool { return x.V == v })
}

// dress is a part with the tints of its vertices, and the worths of what hangs on its links, there and back; real links, and the one by which it hangs itself, have none.
func (t *tree) dress(i int) api.Dress {
	d := api.Dress{Part: t.parts[i]}
	for _, v := range links.Verts(d.Part.Links) {
		d.Vert = append(d.Vert, t.tints[v])
	}
	for _, x := range d.Part.Links {
		var c [2]int
		if j, hanging := t.hangs[x.V]; hanging && j != i {
			c = [2]int{1 + t.worth[side{j, true}], 1 + t.worth[side{j, false}]}
		}
		d.Side = append(d.Side, c)
	}
	return d
}

// told is the order in which the vertices are met: from the centre on, through each look, and then through what hangs on its links, in their order.
func (t *tree) told() ([]int, api.Errno) {
	met := map[int]int{}
	var out []int
	var visit func(i int, s api.Seen)
	visit = func(i int, s api.Seen) {
		for _, v := range s.Verts {
			met[v]++
			if met[v] == 1 {
				out = append(out, v)
			}
		}
		for k, at := range s.Links {
			v := t.parts[i].Links[at].V
			if j, hanging := t.hangs[v]; hanging && j != i {
				visit(j, t.looks[side{j, s.There[k]}])
			}
		}
	}
	if len(t.centre) == 1 {
		s, e := part.Best(t.dress(t.centre[0]))
		if e != api.OK {
			return nil, e
		}
		visit(t.centre[0], s)
		return out, api.OK
	}
	first, second := t.ahead()
	visit(first.part, t.looks[first])
	visit(second.part, t.looks[second])
	return out, api.OK
}

// ahead is which one of two parts in the centre goes first, and which way the link between both is gone: so that the first one is worth least, and, if that may be had otherwise, too, the second one.
func (t *tree) ahead() (side, side) {
	worth := func(first side) [2]int {
		return [2]int{t.worth[first], t.worth[t.other(first)]}
	}
	best := side{t.centre[0], true}
	for _, i := range t.centre {
		for _, there := range [...]bool{true, false} {
			x, y := worth(side{i, there}), worth(best)
			if slices.Compare(x[:], y[:]) < 0 {
				best = side{i, there}
			}
		}
	}
	return best, t.other(best)
}

// other is the other part of two in the centre, its link gone the same way.
func (t *tree) other(x side) side {
	return side{t.centre[0] + t.centre[1] - x.part, x.there}
}
