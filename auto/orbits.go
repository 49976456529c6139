package auto

// orbits tells which vertices maps take to one another: those are together.
type orbits struct {
	heads []int
}

// newOrbits is n vertices, each by itself.
func newOrbits(n int) orbits {
	heads := make([]int, n)
	for v := range heads {
		heads[v] = v
	}
	return orbits{heads}
}

// head is the least of those that are together with v.
func (o orbits) head(v int) int {
	for o.heads[v] != v {
		v = o.heads[v]
	}
	return v
}

// join puts together what a map takes to one another.
func (o orbits) join(p []int) {
	for v, w := range p {
		a, b := o.head(v), o.head(w)
		o.heads[max(a, b)] = min(a, b)
	}
}

// with is who is together with v, rising.
func (o orbits) with(v int) []int {
	together := func(w int) bool { return o.head(v) == o.head(w) }
	var out []int
	for w := range o.heads {
		if together(w) {
			out = append(out, w)
		}
	}
	return out
}

// lists is all vertices in lists of those that are together, by rising first ones.
func (o orbits) lists() [][]int {
	var out [][]int
	for v := range o.heads {
		if o.head(v) == v {
			out = append(out, o.with(v))
		}
	}
	return out
}
