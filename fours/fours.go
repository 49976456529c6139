// Package fours writes numbers as four bytes each, the highest first, and tinted graphs as such numbers; layers that write so share it.
package fours

import (
	"cmp"
	"slices"
)

// Put answers out, and n behind it.
func Put(out []byte, n int) []byte {
	return append(out, byte(n>>24), byte(n>>16), byte(n>>8), byte(n))
}

// Get answers the number that b begins with, and what stands behind it; false, if there are less than four bytes.
func Get(b []byte) (int, []byte, bool) {
	if len(b) < 4 {
		return 0, nil, false
	}
	return int(b[0])<<24 | int(b[1])<<16 | int(b[2])<<8 | int(b[3]), b[4:], true
}

// Code answers the numbers that tell a tinted graph by an order of its vertices, which are called from 0 on: how many there are, their tints, how many edges there are, and these by the places of their ends, rising. False, unless all vertices stand in the order once.
func Code(tints []int, edges [][2]int, order []int) ([]byte, bool) {
	n := len(tints)
	if len(order) != n {
		return nil, false
	}
	out := Put(nil, n)
	place := slices.Repeat([]int{-1}, n)
	for i, v := range order {
		if v < 0 || n <= v || place[v] >= 0 {
			return nil, false
		}
		place[v] = i
		out = Put(out, tints[v])
	}
	called := make([][2]int, len(edges))
	for i, e := range edges {
		a, b := place[e[0]], place[e[1]]
		called[i] = [2]int{min(a, b), max(a, b)}
	}
	slices.SortFunc(called, func(a, b [2]int) int {
		return cmp.Or(cmp.Compare(a[0], b[0]), cmp.Compare(a[1], b[1]))
	})
	out = Put(out, len(edges))
	for _, e := range called {
		out = Put(Put(out, e[0]), e[1])
	}
	return out, true
}
