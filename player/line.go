package player

import (
	"strconv"
	"strings"

	"fretwork/api"
)

// words are what a line says behind its first word: the name of a graph that is made; the names of others, and these; numbers; edges.
type words struct {
	name   string
	names  []string
	graphs []api.Graph
	nums   []int
	edges  [][2]int
}

// Kinds of words.
const (
	newName = 'n'
	oldName = 'o'
	aNumber = '#'
	anEdge  = '-'
)

// order is what a line's words behind the first one are; of which kind any number of others may follow, if any; and what the line does.
type order struct {
	form string
	more byte
	does func(*Player, words) (string, api.Errno)
}

// orders are all lines there are, by their first words.
func orders() map[string]order {
	return map[string]order{
		"let":    {"n#", anEdge, (*Player).let},
		"call":   {"no", aNumber, (*Player).call},
		"join":   {"noo", 0, (*Player).join},
		"less":   {"no-", 0, (*Player).less},
		"parts":  {"o", 0, (*Player).parts},
		"cuts":   {"o", 0, (*Player).cuts},
		"blocks": {"o", 0, (*Player).blocks},
		"plane":  {"o", 0, (*Player).plane},
		"same":   {"oo", 0, (*Player).same},
		"maps":   {"o", 0, (*Player).maps},
		"orbits": {"o", 0, (*Player).orbits},
		"put":    {"o", 0, (*Player).put},
		"find":   {"o", 0, (*Player).find},
		"seen":   {"#", 0, (*Player).seen},
		"again":  {"", 0, (*Player).again},
	}
}

// parsed is what a line does, and its words; false, if there is no such line.
func parsed(line string) (order, words, bool) {
	all := strings.Split(line, " ")
	o, met := orders()[all[0]]
	rest := all[1:]
	if !met || len(rest) < len(o.form) || len(rest) > len(o.form) && o.more == 0 {
		return order{}, words{}, false
	}
	var w words
	for i, s := range rest {
		kind := o.more
		if i < len(o.form) {
			kind = o.form[i]
		}
		if !w.take(kind, s) {
			return order{}, words{}, false
		}
	}
	return o, w, true
}

// take takes a word of some kind; false, if it is none.
func (w *words) take(kind byte, s string) bool {
	switch kind {
	case newName:
		w.name = s
		return isName(s)
	case oldName:
		w.names = append(w.names, s)
		return isName(s)
	case aNumber:
		n, ok := number(s)
		w.nums = append(w.nums, n)
		return ok
	}
	first, second, parted := strings.Cut(s, "-")
	a, ok := number(first)
	b, too := number(second)
	w.edges = append(w.edges, [2]int{a, b})
	return parted && ok && too
}

// isName tells whether s is one to eight letters a to z.
func isName(s string) bool {
	for i := range len(s) {
		if s[i] < 'a' || 'z' < s[i] {
			return false
		}
	}
	return 1 <= len(s) && len(s) <= 8
}

// number reads one to nine digits, no 0 ahead of others.
func number(s string) (int, bool) {
	if s == "" || len(s) > 9 || len(s) > 1 && s[0] == '0' {
		return 0, false
	}
	for i := range len(s) {
		if s[i] < '0' || '9' < s[i] {
			return 0, false
		}
	}
	n, e := strconv.Atoi(s)
	return n, e == nil
}
