package fast

// Rule 5: what is handed in stays as it is, and what is answered is new memory.

import (
	"testing"

	"conclave/api"
	"conclave/sample"
)

// all are all calls, as ones of two lists.
func all() map[string]binary {
	every := twos()
	for what, do := range ones() {
		every[what] = func(f api.Field, p, _ []uint64) ([]uint64, api.Errno) { return do(f, p) }
	}
	every["Power"] = func(f api.Field, p, q []uint64) ([]uint64, api.Errno) { return Power(f, p, len(q)) }
	return every
}

func TestMemory(t *testing.T) {
	for _, f := range sample.Fields() {
		// An argument would be a right answer of many of these, but for its memory.
		lists := [][]uint64{
			nil, l(0), l(1), l(5), l(1, 0), l(0, 1), l(1, 2, 3), l(1, 2, 3, 0, 0), make([]uint64, 8),
			sample.Run(f, 1, 20), sample.Run(f, 1, 64), sample.Padded(sample.Run(f, 1, 40), 64), sample.Run(f, 3, 128),
			l(sample.Prime(f)), sample.Power(4096),
		}
		for what, do := range all() {
			apart(t, what, do, f, lists)
		}
	}
}

func apart(t *testing.T, what string, do binary, f api.Field, lists [][]uint64) {
	t.Helper()
	answer := func(p, q []uint64) [][]uint64 {
		x, _ := do(f, p, q)
		return [][]uint64{x}
	}
	two := func(h [][]uint64) [][]uint64 { return answer(h[0], h[1]) }
	twice := func(h [][]uint64) [][]uint64 { return answer(h[0], h[0]) }
	part := func(h [][]uint64) [][]uint64 { return answer(h[0], h[0][:len(h[0])/2]) }
	for _, p := range lists {
		for _, q := range lists {
			if wrong := sample.Apart(two, p, q); wrong != "" {
				t.Errorf("%s(%d, %s, %s): %s", what, f, sample.Brief(p), sample.Brief(q), wrong)
			}
		}
		if wrong := sample.Apart(twice, p) + sample.Apart(part, p); wrong != "" {
			t.Errorf("%s(%d), %s and itself: %s", what, f, sample.Brief(p), wrong)
		}
	}
}
