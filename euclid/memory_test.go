package euclid

// Rule 5: what is handed in stays as it is, and what is answered is new memory.

import (
	"testing"

	"conclave/sample"
)

func TestMemory(t *testing.T) {
	for _, f := range sample.Fields() {
		// An argument would be a right answer of many of these, but for its memory.
		lists := [][]uint64{nil, l(0), l(1), l(5), l(1, 0), l(0, 1), l(1, 1), l(1, 2, 1), l(1, 2, 1, 0, 0), sample.Run(f, 1, 20), l(sample.Prime(f)), sample.Power(2048)}
		for what, do := range calls() {
			for _, stop := range []int{-1, 0, 1, 2, 3, 19, 20} {
				answer := func(a, b []uint64) [][]uint64 {
					x, _, _ := do(f, a, b, stop)
					return x
				}
				two := func(h [][]uint64) [][]uint64 { return answer(h[0], h[1]) }
				twice := func(h [][]uint64) [][]uint64 { return answer(h[0], h[0]) }
				part := func(h [][]uint64) [][]uint64 { return answer(h[0], h[0][:len(h[0])/2]) }
				for _, a := range lists {
					for _, b := range lists {
						if wrong := sample.Apart(two, a, b); wrong != "" {
							t.Errorf("%s(%d, %s, %s, %d): %s", what, f, sample.Brief(a), sample.Brief(b), stop, wrong)
						}
					}
					if wrong := sample.Apart(twice, a) + sample.Apart(part, a); wrong != "" {
						t.Errorf("%s(%d, %d), %s and itself: %s", what, f, stop, sample.Brief(a), wrong)
					}
				}
			}
		}
	}
}
