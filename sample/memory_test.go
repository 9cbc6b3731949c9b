package sample

import "testing"

// What no layer does: the tests of all layers lean on Apart's finding it.
func TestApartFindsWhatIsAmiss(t *testing.T) {
	kept := []uint64{4, 5, 6}
	for what, do := range map[string]func(h [][]uint64) [][]uint64{
		"changes an argument":         func(h [][]uint64) [][]uint64 { h[0][0]++; return nil },
		"changes the room behind one": func(h [][]uint64) [][]uint64 { _ = append(h[1], 1); return nil },
		"answers an argument":         func(h [][]uint64) [][]uint64 { return h[:1] },
		"answers a piece of one":      func(h [][]uint64) [][]uint64 { return [][]uint64{h[1][1:]} },
		"answers none, and its room":  func(h [][]uint64) [][]uint64 { return [][]uint64{h[1][:0]} },
		"answers one list twice":      func(h [][]uint64) [][]uint64 { a := []uint64{1, 2}; return [][]uint64{a, a} },
		"answers two pieces of one":   func(h [][]uint64) [][]uint64 { a := []uint64{1, 2}; return [][]uint64{a[:1], a[1:]} },
		"answers what it keeps":       func(h [][]uint64) [][]uint64 { return [][]uint64{kept} },
	} {
		if Apart(do, []uint64{1, 2}, []uint64{3}) == "" {
			t.Errorf("a call that %s is not found", what)
		}
	}
}

func TestApartFindsNothingElse(t *testing.T) {
	fresh := func(h [][]uint64) [][]uint64 { return [][]uint64{Padded(h[0], 5), nil, Padded(h[1], 9)} }
	if wrong := Apart(fresh, []uint64{1, 2}, nil); wrong != "" {
		t.Errorf("new memory: %s", wrong)
	}
}
