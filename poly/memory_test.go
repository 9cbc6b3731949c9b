package poly

// Rule 5: what is handed in stays as it is, and what is answered is new memory.

import (
	"slices"
	"testing"

	"conclave/api"
	"conclave/sample"
)

// all are all calls that answer lists, as ones of two lists.
func all() map[string]func(f api.Field, p, q []uint64) [][]uint64 {
	every := map[string]func(f api.Field, p, q []uint64) [][]uint64{
		"Trim": func(_ api.Field, p, _ []uint64) [][]uint64 { return [][]uint64{Trim(p)} },
		"Scale": func(f api.Field, p, q []uint64) [][]uint64 {
			if len(p) == 0 {
				return nil
			}
			x, _ := Scale(f, p[0], q)
			return [][]uint64{x}
		},
	}
	for what, do := range calls() {
		every[what] = func(f api.Field, p, q []uint64) [][]uint64 {
			lists, _ := do(f, p, q)
			return lists
		}
	}
	return every
}

func TestMemory(t *testing.T) {
	for _, f := range sample.Fields() {
		// An argument would be a right answer of many of these, but for its memory.
		lists := [][]uint64{nil, l(0), l(1), l(5), l(1, 0), l(0, 1), l(1, 2, 3), l(1, 2, 3, 0, 0), sample.Run(f, 1, 20), l(sample.Prime(f)), sample.Power(4096)}
		for what, do := range all() {
			two := func(h [][]uint64) [][]uint64 { return do(f, h[0], h[1]) }
			twice := func(h [][]uint64) [][]uint64 { return do(f, h[0], h[0]) }
			part := func(h [][]uint64) [][]uint64 { return do(f, h[0], h[0][:len(h[0])/2]) }
			for _, p := range lists {
				for _, q := range lists {
					if wrong := sample.Apart(two, p, q); wrong != "" {
						t.Errorf("%s(%d, %s, %s): %s", what, f, sample.Brief(p), sample.Brief(q), wrong)
					}
				}
				if wrong := sample.Apart(twice, p) + sample.Apart(part, p); wrong != "" {
					t.Errorf("%s(%d), %s and itself: %s", what, f, sample.Brief(p), wrong)
				}
			}
		}
	}
}

func TestValuesLeaveTheListAsItIs(t *testing.T) {
	for _, f := range sample.Fields() {
		for _, a := range append(sample.Polys(f), l(sample.Prime(f)), sample.Power(4096)) {
			p, whole := sample.Roomy(a...)
			before := slices.Clone(whole)
			Eval(f, p, 3)
			Degree(p)
			if !slices.Equal(whole, before) {
				t.Errorf("field %d: %s became %s", f, sample.Brief(before), sample.Brief(whole))
			}
		}
	}
}
