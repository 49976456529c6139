package fours_test

import (
	"bytes"
	"testing"

	"fretwork/fours"
)

func TestPut(t *testing.T) {
	if b := fours.Put([]byte{9}, 0x01020304); !bytes.Equal(b, []byte{9, 1, 2, 3, 4}) {
		t.Error(b)
	}
}

func TestGet(t *testing.T) {
	if n, rest, ok := fours.Get([]byte{255, 1, 2, 3, 9}); !ok || n != 0xff010203 || !bytes.Equal(rest, []byte{9}) {
		t.Error(n, rest, ok)
	}
	if n, rest, ok := fours.Get([]byte{1, 2, 3}); ok || n != 0 || rest != nil {
		t.Error(n, rest, ok)
	}
}

func TestCode(t *testing.T) {
	tints, edges := []int{5, 6, 7}, [][2]int{{0, 1}, {0, 2}}
	want := []byte{0, 0, 0, 3, 0, 0, 0, 7, 0, 0, 0, 5, 0, 0, 0, 6, 0, 0, 0, 2, 0, 0, 0, 0, 0, 0, 0, 1, 0, 0, 0, 1, 0, 0, 0, 2}
	if b, ok := fours.Code(tints, edges, []int{2, 0, 1}); !ok || !bytes.Equal(b, want) {
		t.Error(b, ok)
	}
	for _, order := range [][]int{nil, {0, 1}, {0, 1, 1}, {0, 1, 3}, {-1, 0, 1}, {0, 1, 2, 2}} {
		if b, ok := fours.Code(tints, edges, order); ok || b != nil {
			t.Error(order, b)
		}
	}
}
