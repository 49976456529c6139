package player

import (
	"slices"
	"strconv"
	"strings"

	"fretwork/api"
	"fretwork/auto"
	"fretwork/catalogue"
	"fretwork/faces"
	"fretwork/graph"
	"fretwork/iso"
	"fretwork/kura"
	"fretwork/low"
	"fretwork/perm"
	"fretwork/planar"
	"fretwork/walk"
)

func (p *Player) let(w words) (string, api.Errno) {
	g, e := graph.New(w.nums[0], w.edges)
	return p.keep(w.name, g, e)
}

func (p *Player) call(w words) (string, api.Errno) {
	g, e := perm.Apply(w.graphs[0], w.nums)
	return p.keep(w.name, g, e)
}

func (p *Player) join(w words) (string, api.Errno) {
	a, b := w.graphs[0], w.graphs[1]
	edges := slices.Clone(a.Edges)
	for _, x := range b.Edges {
		edges = append(edges, [2]int{a.N + x[0], a.N + x[1]})
	}
	g, e := graph.New(a.N+b.N, edges)
	return p.keep(w.name, g, e)
}

func (p *Player) less(w words) (string, api.Errno) {
	a, x := w.graphs[0], w.edges[0]
	if !graph.Has(a, x[0], x[1]) {
		return "", api.ErrArg
	}
	out := [2]int{min(x[0], x[1]), max(x[0], x[1])}
	left := slices.DeleteFunc(slices.Clone(a.Edges), func(y [2]int) bool { return y == out })
	g, e := graph.New(a.N, left)
	return p.keep(w.name, g, e)
}

func (p *Player) parts(w words) (string, api.Errno) {
	return lists(walk.Parts(w.graphs[0])), api.OK
}

func (p *Player) cuts(w words) (string, api.Errno) {
	l, e := low.Cuts(w.graphs[0])
	return list(l), e
}

func (p *Player) blocks(w words) (string, api.Errno) {
	all, e := low.Blocks(w.graphs[0])
	var sizes []int
	for _, b := range all {
		sizes = append(sizes, len(b))
	}
	return list(sizes), e
}

func (p *Player) plane(w words) (string, api.Errno) {
	r, twist, e := planar.Certify(w.graphs[0])
	if e != api.OK {
		return "", e
	}
	if len(twist) == 0 {
		f, e := faces.Faces(r)
		return "plane " + strconv.Itoa(len(f)), e
	}
	told := "twist " + strconv.Itoa(kura.Kind(twist))
	for _, x := range twist {
		told += " " + strconv.Itoa(x[0]) + "-" + strconv.Itoa(x[1])
	}
	return told, api.OK
}

func (p *Player) same(w words) (string, api.Errno) {
	_, e := iso.Map(w.graphs[0], w.graphs[1])
	switch e {
	case api.OK:
		return "yes", api.OK
	case api.ErrIso:
		return "no", api.OK
	}
	return "", e
}

func (p *Player) maps(w words) (string, api.Errno) {
	x, e := auto.Auto(w.graphs[0])
	if e != api.OK {
		return "", e
	}
	return auto.Size(x), api.OK
}

func (p *Player) orbits(w words) (string, api.Errno) {
	l, e := auto.Orbits(w.graphs[0])
	return lists(l), e
}

func (p *Player) put(w words) (string, api.Errno) {
	n, is, e := p.cat.Put(w.graphs[0])
	if e != api.OK {
		return "", e
	}
	if is {
		return strconv.Itoa(n) + " new", api.OK
	}
	return strconv.Itoa(n) + " old", api.OK
}

func (p *Player) find(w words) (string, api.Errno) {
	n, _, e := p.cat.Find(w.graphs[0])
	if e != api.OK {
		return "", e
	}
	return strconv.Itoa(n), api.OK
}

func (p *Player) seen(w words) (string, api.Errno) {
	g, puts, ok := p.cat.At(w.nums[0])
	if !ok {
		return "", api.ErrArg
	}
	return list([]int{puts, g.N, len(g.Edges)}), api.OK
}

func (p *Player) again(words) (string, api.Errno) {
	c, e := catalogue.Import(api.MaxClasses, p.cat.Export())
	if e != api.OK {
		return "", e
	}
	p.cat = c
	return strconv.Itoa(c.Len()), api.OK
}

// keep gives a graph its name, unless there is an error, and tells it.
func (p *Player) keep(name string, g api.Graph, e api.Errno) (string, api.Errno) {
	if e != api.OK {
		return "", e
	}
	p.graphs[name] = g
	return list([]int{g.N, len(g.Edges)}), api.OK
}

// list tells numbers, a blank between each two.
func list(l []int) string {
	var told []string
	for _, n := range l {
		told = append(told, strconv.Itoa(n))
	}
	return strings.Join(told, " ")
}

// lists tells several lists.
func lists(all [][]int) string {
	var told []string
	for _, l := range all {
		told = append(told, list(l))
	}
	return strings.Join(told, " / ")
}
