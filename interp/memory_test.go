package interp

// Rule 5: what is handed in stays as it is, and what is answered is new memory.

import (
	"testing"

	"conclave/sample"
)

func TestMemory(t *testing.T) {
	for _, f := range sample.Fields() {
		one := map[string]func(h [][]uint64) [][]uint64{
			"Weights":              func(h [][]uint64) [][]uint64 { x, _ := Weights(f, h[0]); return [][]uint64{x} },
			"Basis":                func(h [][]uint64) [][]uint64 { x, _ := Basis(f, h[0], 7); return [][]uint64{x} },
			"Basis at 0":           func(h [][]uint64) [][]uint64 { x, _ := Basis(f, h[0], 0); return [][]uint64{x} },
			"Through itself":       func(h [][]uint64) [][]uint64 { x, _ := Through(f, h[0], h[0]); return [][]uint64{x} },
			"Value of itself":      func(h [][]uint64) [][]uint64 { Value(f, h[0], h[0], 7); return nil },
			"Change to itself":     func(h [][]uint64) [][]uint64 { x, _ := Change(f, h[0], h[0]); return x },
			"Change to a piece":    func(h [][]uint64) [][]uint64 { x, _ := Change(f, h[0], h[0][:len(h[0])/2]); return x },
			"Change to one, often": func(h [][]uint64) [][]uint64 { x, _ := Change(f, h[0], l(5, 5, 0, 5)); return x },
			"Fits itself":          func(h [][]uint64) [][]uint64 { Fits(f, h[0], h[0], 1); return nil },
		}
		two := map[string]func(h [][]uint64) [][]uint64{
			"Through": func(h [][]uint64) [][]uint64 { x, _ := Through(f, h[0], h[1]); return [][]uint64{x} },
			"Value":   func(h [][]uint64) [][]uint64 { Value(f, h[0], h[1], 3); return nil },
			"Change":  func(h [][]uint64) [][]uint64 { x, _ := Change(f, h[0], h[1]); return x },
			"Fits":    func(h [][]uint64) [][]uint64 { Fits(f, h[0], h[1], 1); return nil },
		}
		// An argument would be a right answer of some of these, but for its memory.
		lists := [][]uint64{nil, l(0), l(1), l(5), l(0, 1), l(1, 0), l(1, 1), l(0, 0), l(9, 9), l(2, 0, 1), l(0, 0, 0), sample.Unlike(f, 0, 20), sample.Unlike(f, 3, 20), make([]uint64, 20), sample.Unlike(f, 40, 17), l(sample.Prime(f)), l(1, sample.Prime(f)), sample.Unlike(f, 0, 513)}
		for _, a := range lists {
			for what, do := range one {
				if wrong := sample.Apart(do, a); wrong != "" {
					t.Errorf("%s, field %d, %s: %s", what, f, sample.Brief(a), wrong)
				}
			}
			for _, b := range lists {
				for what, do := range two {
					if wrong := sample.Apart(do, a, b); wrong != "" {
						t.Errorf("%s, field %d, %s and %s: %s", what, f, sample.Brief(a), sample.Brief(b), wrong)
					}
				}
			}
		}
	}
}

// The list of the rows too is new each time, the room behind its end counted.
func TestRowsAreNew(t *testing.T) {
	for _, f := range sample.Fields() {
		for n := range 20 {
			xs, zs := sample.Unlike(f, 0, 4), sample.Unlike(f, 2, n)
			rows, _ := Change(f, xs, zs)
			other, _ := Change(f, xs, zs)
			clear(rows[:cap(rows)])
			if !same(other, changeBy(f, xs, zs)) {
				t.Errorf("field %d, %d rows: two answers are one list", f, n)
			}
		}
	}
}
