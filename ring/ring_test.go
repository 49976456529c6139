package ring_test

import (
	"bytes"
	"math"
	"reflect"
	"slices"
	"strings"
	"testing"

	"fretwork/ring"
	"fretwork/samples"
)

// words are those of a text, a comma between each two.
func words(text string) [][]byte {
	return bytes.Split([]byte(text), []byte(","))
}

// text is words with commas between.
func text(l [][]byte) string {
	return string(bytes.Join(l, []byte(",")))
}

func TestTurnFlip(t *testing.T) {
	for k, want := range map[int]string{0: "a,b,c", 1: "b,c,a", 2: "c,a,b", 3: "a,b,c", -1: "c,a,b", -3: "a,b,c", -4: "c,a,b", math.MaxInt: "b,c,a", math.MinInt: "b,c,a"} {
		if l := ring.Turn(words("a,b,c"), k); text(l) != want {
			t.Error(k, text(l), want)
		}
	}
	if l := ring.Flip(words("a,b,,c")); text(l) != "c,,b,a" {
		t.Error(text(l))
	}
	if len(ring.Turn(nil, 5)) != 0 || len(ring.Flip(nil)) != 0 || len(ring.Turn([][]byte{}, 0)) != 0 {
		t.Error("something of nothing")
	}
}

func TestLeastExamples(t *testing.T) {
	for s, want := range map[string]struct {
		places []int
		turn   string
	}{
		"b,a,b,a": {[]int{1, 3}, "a,b,a,b"}, "ab,a": {[]int{1}, "a,ab"}, "x": {[]int{0}, "x"}, "": {[]int{0}, ""}, "c,c,c": {[]int{0, 1, 2}, "c,c,c"}, "b,,b": {[]int{1}, ",b,b"}, "a,a,b,a": {[]int{3}, "a,a,a,b"},
	} {
		if p, l := ring.Least(words(s)); !slices.Equal(p, want.places) || text(l) != want.turn {
			t.Error(s, p, text(l))
		}
	}
	if p, l := ring.Least(nil); len(p) != 0 || len(l) != 0 {
		t.Error(p, l)
	}
}

func TestLeast(t *testing.T) {
	var d samples.Dice
	for range 5000 {
		var l [][]byte
		for range 1 + d.Roll(6) {
			l = append(l, []byte(strings.Repeat("a", d.Roll(3))+strings.Repeat("b", d.Roll(2))))
		}
		for range d.Roll(3) {
			l = append(l, l...)
		}
		best := ring.Turn(l, 0)
		for k := range l {
			if x := ring.Turn(l, k); ring.Compare(x, best) < 0 {
				best = x
			}
		}
		var places []int
		for k := range l {
			if ring.Compare(ring.Turn(l, k), best) == 0 {
				places = append(places, k)
			}
		}
		p, turn := ring.Least(l)
		if !slices.Equal(p, places) || text(turn) != text(best) {
			t.Fatal(text(l), p, text(turn))
		}
		if _, again := ring.Least(ring.Turn(l, d.Roll(50))); text(again) != text(turn) {
			t.Error(text(l), text(again))
		}
	}
}

func TestCompare(t *testing.T) {
	rising := [][][]byte{nil, words(""), words(",a"), words("a"), words("a,"), words("a,a"), words("a,ab"), words("a,b"), words("ab"), words("ab,a"), words("b"), words("\xff")}
	for i, a := range rising {
		for j, b := range rising {
			want := 0
			if i < j {
				want = -1
			} else if i > j {
				want = 1
			}
			if c := ring.Compare(a, b); c != want {
				t.Error(i, j, c)
			}
			if bytes.Equal(ring.Bytes(a), ring.Bytes(b)) != (i == j) {
				t.Error(i, j)
			}
		}
	}
	if ring.Compare(nil, [][]byte{}) != 0 || ring.Compare([][]byte{nil}, [][]byte{{}}) != 0 {
		t.Error("empty is not none")
	}
}

func TestBytes(t *testing.T) {
	for s, want := range map[string][]byte{"ab": {0, 0, 0, 1, 0, 0, 0, 2, 97, 98}, "a,,b": {0, 0, 0, 3, 0, 0, 0, 1, 97, 0, 0, 0, 0, 0, 0, 0, 1, 98}} {
		if b := ring.Bytes(words(s)); !bytes.Equal(b, want) {
			t.Error(s, b)
		}
	}
	if b := ring.Bytes(nil); !bytes.Equal(b, make([]byte, 4)) {
		t.Error(b)
	}
	long := ring.Bytes([][]byte{make([]byte, 0x010203)})
	if !bytes.Equal(long[:8], []byte{0, 0, 0, 1, 0, 1, 2, 3}) || len(long) != 8+0x010203 {
		t.Error(long[:8])
	}
}

func TestLong(t *testing.T) {
	same := slices.Repeat([][]byte{[]byte("a")}, 200000)
	if p, _ := ring.Least(same); len(p) != len(same) {
		t.Error(len(p))
	}
	same[100] = nil
	if p, _ := ring.Least(same); !slices.Equal(p, []int{100}) {
		t.Error(p)
	}
}

func TestNothingShared(t *testing.T) {
	l := words("b,a")
	a, b := ring.Turn(l, 0), ring.Flip(l)
	_, c := ring.Least(l)
	for _, x := range [][][]byte{a, b, c} {
		for _, w := range x {
			w[0] = 'z'
			_ = append(w, 'y')
		}
	}
	if !reflect.DeepEqual(l, words("b,a")) {
		t.Error(text(l))
	}
}
