package sample

import (
	"slices"
	"testing"
)

// Lists of places lean on it: an element that stood twice would make another error of them.
func TestUnlike(t *testing.T) {
	for _, f := range Fields() {
		for _, n := range []int{0, 1, 2, 50, 513, 4097} {
			for _, from := range []int{0, 1, 60, 1000} {
				l := Unlike(f, from, n)
				slices.Sort(l)
				if len(slices.Compact(l)) != n {
					t.Errorf("field %d, %d from %d on: %s", f, n, from, Brief(l))
				}
			}
		}
	}
}
