package graph

import (
	"strconv"
	"strings"

	"fretwork/api"
)

// Text answers the text of g.
func Text(g api.Graph) (string, api.Errno) {
	if !Right(g) {
		return "", api.ErrGraph
	}
	out := line(nil, g.N, len(g.Edges))
	for _, e := range g.Edges {
		out = line(out, e[0], e[1])
	}
	return string(out), api.OK
}

// Parse answers the graph that s tells of.
func Parse(s string) (api.Graph, api.Errno) {
	head, rest, ok := twoNumbers(s)
	if !ok {
		return api.Graph{}, api.ErrGraph
	}
	if head[0] > api.MaxN || head[1] > api.MaxM {
		return api.Graph{}, api.ErrLarge
	}
	var edges [][2]int
	for range head[1] {
		var e [2]int
		e, rest, ok = twoNumbers(rest)
		if !ok {
			return api.Graph{}, api.ErrGraph
		}
		edges = append(edges, e)
	}
	if rest != "" {
		return api.Graph{}, api.ErrGraph
	}
	return New(head[0], edges)
}

// line is out, and two numbers' line behind it.
func line(out []byte, a, b int) []byte {
	out = strconv.AppendInt(out, int64(a), 10)
	out = append(out, ' ')
	out = strconv.AppendInt(out, int64(b), 10)
	return append(out, '\n')
}

// twoNumbers reads two numbers' line at the beginning of s, and tells what stands behind it.
func twoNumbers(s string) ([2]int, string, bool) {
	row, rest, ended := strings.Cut(s, "\n")
	first, second, parted := strings.Cut(row, " ")
	a, ok := number(first)
	b, too := number(second)
	if !ended || !parted || !ok || !too {
		return [2]int{}, "", false
	}
	return [2]int{a, b}, rest, true
}

// number reads a text that is a number and no more.
func number(s string) (int, bool) {
	if s == "" || len(s) > 9 || len(s) > 1 && s[0] == '0' {
		return 0, false
	}
	n := 0
	for i := range len(s) {
		if s[i] < '0' || '9' < s[i] {
			return 0, false
		}
		n = 10*n + int(s[i]-'0')
	}
	return n, true
}
