package spqr

import (
	"slices"

	"fretwork/api"
)

// Right tells whether p are right parts.
func Right(p []api.Part) bool {
	_, ok := linked(p)
	return ok
}

// place is a link of a part.
type place struct {
	part int
	link api.Link
}

// linked tells whether p are right parts, and of each the places of those beside it, rising.
func linked(p []api.Part) ([][]int, bool) {
	for i, x := range p {
		if x.Kind == 0 || Kind(x.Links) != x.Kind || i > 0 && compare(p[i-1], x) >= 0 {
			return nil, false
		}
	}
	numbers, ok := met(p)
	if !ok || len(numbers) != len(p)-1 {
		return nil, false
	}
	out := make([][]int, len(p))
	for _, two := range numbers {
		if !mayTouch(p, two) {
			return nil, false
		}
		a, b := two[0].part, two[1].part
		out[a], out[b] = append(out[a], b), append(out[b], a)
	}
	for _, row := range out {
		slices.Sort(row)
	}
	return out, together(out)
}

// met is where each number above 0 was met, and false if a real link was met twice.
func met(p []api.Part) (map[int][]place, bool) {
	numbers := map[int][]place{}
	reals := map[api.Link]int{}
	for i, x := range p {
		for _, y := range x.Links {
			if y.V > 0 {
				numbers[y.V] = append(numbers[y.V], place{i, y})
				continue
			}
			reals[y]++
			if reals[y] > 1 {
				return nil, false
			}
		}
	}
	return numbers, true
}

// mayTouch tells whether a number may stand at these places: in two parts, as the same link, and not between two circles, or two bonds.
func mayTouch(p []api.Part, at []place) bool {
	if len(at) != 2 || at[0].part == at[1].part || at[0].link != at[1].link {
		return false
	}
	kind := p[at[0].part].Kind
	return kind != p[at[1].part].Kind || kind == api.KindR
}

// together tells whether all parts hang together.
func together(beside [][]int) bool {
	reached := make([]bool, len(beside))
	reached[0] = true
	list := []int{0}
	for i := 0; i < len(list); i++ {
		for _, j := range beside[list[i]] {
			if !reached[j] {
				reached[j] = true
				list = append(list, j)
			}
		}
	}
	return len(list) == len(beside)
}
