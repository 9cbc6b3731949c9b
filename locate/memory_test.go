package locate

// Rule 5: what is handed in stays as it is, and what is answered is new memory.

import (
	"slices"
	"testing"

	"conclave/api"
	"conclave/sample"
)

func TestMemory(t *testing.T) {
	for _, f := range sample.Fields() {
		decode := func(degree, wrong int) func(h [][]uint64) [][]uint64 {
			return func(h [][]uint64) [][]uint64 {
				p, _, _, _ := Decode(f, h[0], h[1], degree, wrong)
				return [][]uint64{p}
			}
		}
		two := map[string]func(h [][]uint64) [][]uint64{
			"Decode, -1, 0":   decode(-1, 0),
			"Decode, -1, 1":   decode(-1, 1),
			"Decode, 0, 0":    decode(0, 0),
			"Decode, 1, 1":    decode(1, 1),
			"Decode, 19, 0":   decode(19, 0),
			"Decode itself":   func(h [][]uint64) [][]uint64 { p, _, _, _ := Decode(f, h[0], h[0], 1, 0); return [][]uint64{p} },
			"Locator of none": func(h [][]uint64) [][]uint64 { p, _ := Locator(f, h[0], nil); return [][]uint64{p} },
			"Locator of one":  func(h [][]uint64) [][]uint64 { p, _ := Locator(f, h[0], at(0)); return [][]uint64{p} },
			"Locator of all": func(h [][]uint64) [][]uint64 {
				p, _ := Locator(f, h[0], sample.Inputs(len(h[0])))
				return [][]uint64{p}
			},
			"Agree":             func(h [][]uint64) [][]uint64 { Agree(f, h[0], h[1], h[1]); return nil },
			"Agree with itself": func(h [][]uint64) [][]uint64 { Agree(f, h[0], h[0], h[0]); return nil },
		}
		// An argument would be a right answer of some of these, but for its memory.
		lists := [][]uint64{nil, l(0), l(1), l(5), l(0, 1), l(1, 0), l(1, 1), l(0, 0), l(0, 0, 0), l(2, 0, 1), l(9, 9, 9, 9), l(0, 1, 2, 3), l(1, 2, 3, 9), sample.Unlike(f, 0, 20), make([]uint64, 20), sample.Run(f, 4, 20), l(sample.Prime(f)), sample.Unlike(f, 0, 513)}
		for _, a := range lists {
			for _, b := range lists {
				for what, do := range two {
					if wrong := sample.Apart(do, a, b); wrong != "" {
						t.Errorf("%s, field %d, %s and %s: %s", what, f, sample.Brief(a), sample.Brief(b), wrong)
					}
				}
			}
		}
	}
}

// The places' numbers, handed in and answered.
func TestMemoryOfNumbers(t *testing.T) {
	for _, f := range sample.Fields() {
		xs, p := sample.Unlike(f, 0, 20), l(1, 1)
		for many := range 10 {
			numbers := sample.Mixed(1, 20)[:many]
			ys := turned(f, valuesBy(f, p, xs), numbers)
			do := func(h [][]int) [][]int {
				Locator(f, xs, h[0])
				_, at, _, _ := Decode(f, xs, ys, 1, 9)
				return [][]int{at}
			}
			for _, handed := range [][]int{numbers, sample.Inputs(20), append(slices.Clone(numbers), 3, 3), append(slices.Clone(numbers), 20), nil} {
				if wrong := sample.Apart(do, handed); wrong != "" {
					t.Errorf("field %d, %d: %s", f, handed, wrong)
				}
			}
		}
	}
}

// Nothing is kept: a call's answer is the same whatever was called ahead of it.
func TestNothingIsKept(t *testing.T) {
	for _, f := range sample.Fields() {
		xs, p := sample.Unlike(f, 0, 20), l(1, 1)
		ys := turned(f, valuesBy(f, p, xs), at(3, 7))
		for range 3 {
			wantTold(t, f, xs, ys, 1, 9, p)
			wantNone(t, f, xs, ys, 0, 9)
			wantTold(t, f, xs, make([]uint64, 20), 1, 9, nil)
			wantAgree(t, f, p, xs, ys, 18, api.OK)
		}
	}
}
