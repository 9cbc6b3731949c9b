package tree

// Rule 5: what is handed in stays as it is, and what is answered is new memory.

import (
	"slices"
	"testing"

	"conclave/sample"
)

func TestMemory(t *testing.T) {
	for _, f := range sample.Fields() {
		one := map[string]func(h [][]uint64) [][]uint64{
			"Zero":  func(h [][]uint64) [][]uint64 { x, _ := Zero(f, h[0]); return [][]uint64{x} },
			"Tree":  func(h [][]uint64) [][]uint64 { x, _ := Tree(f, h[0]); return slices.Concat(x...) },
			"Slope": func(h [][]uint64) [][]uint64 { x, _ := Slope(f, h[0]); return [][]uint64{x} },
			"Values of itself": func(h [][]uint64) [][]uint64 {
				x, _ := Values(f, h[0], h[0])
				return [][]uint64{x}
			},
			"Values of a piece": func(h [][]uint64) [][]uint64 {
				x, _ := Values(f, h[0], h[0][:len(h[0])/2])
				return [][]uint64{x}
			},
			"Remainders by itself": func(h [][]uint64) [][]uint64 { x, _ := Remainders(f, h[0], [][]uint64{h[0], h[0]}); return x },
			"Remainders by a piece": func(h [][]uint64) [][]uint64 {
				x, _ := Remainders(f, h[0], [][]uint64{h[0][:len(h[0])/2], h[0]})
				return x
			},
		}
		two := map[string]func(h [][]uint64) [][]uint64{
			"Values":           func(h [][]uint64) [][]uint64 { x, _ := Values(f, h[0], h[1]); return [][]uint64{x} },
			"Remainders":       func(h [][]uint64) [][]uint64 { x, _ := Remainders(f, h[0], h[1:]); return x },
			"Remainders twice": func(h [][]uint64) [][]uint64 { x, _ := Remainders(f, h[0], [][]uint64{h[1], h[1]}); return x },
		}
		// An argument would be a right answer of many of these, but for its memory.
		lists := [][]uint64{nil, l(0), l(1), l(5), l(1, 0), l(0, 1), l(1, 1), l(1, 2, 1), l(1, 2, 1, 0, 0), l(0, 1, 2), sample.Run(f, 1, 20), sample.Run(f, 3, 17), sample.Power(30), l(sample.Prime(f)), l(1, sample.Prime(f)), sample.Power(2048)}
		for _, a := range lists {
			for what, do := range one {
				if wrong := sample.Apart(do, a); wrong != "" {
					t.Errorf("%s, field %d, %s: %s", what, f, sample.Brief(a), wrong)
				}
			}
			for _, b := range lists {
				for what, do := range two {
					if wrong := sample.Apart(do, a, b); wrong != "" {
						t.Errorf("%s, field %d, %s and %s: %s", what, f, sample.Brief(a), sample.Brief(b), wrong)
					}
				}
			}
		}
	}
}

// Levels too are lists: no two of them, and no two answers, share memory, the room behind their ends counted.
func TestLevelsShareNothing(t *testing.T) {
	for _, f := range sample.Fields() {
		for n := 1; n < 40; n++ {
			xs := sample.Run(f, 1, n)
			levels, _ := Tree(f, xs)
			other, _ := Tree(f, xs)
			for i := range levels {
				clear(levels[i][:cap(levels[i])])
			}
			wantLevels := treeBy(f, xs)
			for i := range other {
				if !same(other[i], wantLevels[i]) {
					t.Fatalf("field %d, %d elements: the level %d of one tree is another one's", f, n, i)
				}
				clear(other[i][:cap(other[i])])
				for j := i + 1; j < len(other); j++ {
					if !same(other[j], wantLevels[j]) {
						t.Errorf("field %d, %d elements: the levels %d and %d share memory", f, n, i, j)
					}
				}
			}
		}
	}
}

// The list of the polynomials stays as it is too, and the answer's list is another one.
func TestPolynomialsAreNotChanged(t *testing.T) {
	for _, f := range sample.Fields() {
		for _, p := range [][]uint64{nil, l(7), sample.Run(f, 4, 9)} {
			for n := range 20 {
				whole := slices.Repeat([][]uint64{l(3, 1), l(1, 0)}, 15)
				rems, _ := Remainders(f, p, whole[:n])
				clear(rems[:cap(rems)])
				if !same(whole, slices.Repeat([][]uint64{l(3, 1), l(1, 0)}, 15)) {
					t.Errorf("field %d, %s, %d polynomials: they are changed", f, sample.Brief(p), n)
				}
			}
		}
	}
}
