package tree

// P6.1 to P6.3: the errors, which of them comes first, and what stands beside them.

import (
	"math"
	"slices"
	"testing"

	"conclave/api"
	"conclave/sample"
)

// calls are all of this layer, with a at each place where a list is handed in, and b at the others: how many lists, or levels, they answer, and their error.
func calls(f api.Field, a, b []uint64) map[string]func() (int, api.Errno) {
	values := func(p, xs []uint64) func() (int, api.Errno) {
		return func() (int, api.Errno) { x, e := Values(f, p, xs); return len(x), e }
	}
	remainders := func(p []uint64, m ...[]uint64) func() (int, api.Errno) {
		return func() (int, api.Errno) { x, e := Remainders(f, p, m); return len(x), e }
	}
	return map[string]func() (int, api.Errno){
		"Zero(a)":                   func() (int, api.Errno) { x, e := Zero(f, a); return len(x), e },
		"Tree(a)":                   func() (int, api.Errno) { x, e := Tree(f, a); return len(x), e },
		"Slope(a)":                  func() (int, api.Errno) { x, e := Slope(f, a); return len(x), e },
		"Values(a, b)":              values(a, b),
		"Values(b, a)":              values(b, a),
		"Values(a, none)":           values(a, nil),
		"Values(none, a)":           values(nil, a),
		"Values(a, a)":              values(a, a),
		"Remainders(a; none)":       remainders(a),
		"Remainders(a; b)":          remainders(a, b),
		"Remainders(a; a)":          remainders(a, a),
		"Remainders(b; a)":          remainders(b, a),
		"Remainders(1; a, b)":       remainders(l(1), a, b),
		"Remainders(1; b, a)":       remainders(l(1), b, a),
		"Remainders(1; b, a, b)":    remainders(l(1), b, a, b),
		"Remainders(b; 1, b, 1, a)": remainders(b, l(1), b, l(1), a),
		"Remainders(a; 2049 b)":     remainders(a, slices.Repeat([][]uint64{b}, 2049)...),
		"Remainders(b; 2049 b, a)":  remainders(b, append(slices.Repeat([][]uint64{b}, 2049), a)...),
	}
}

// wantError has each call answer e, and nothing beside it.
func wantError(t *testing.T, f api.Field, a, b []uint64, e api.Errno) {
	t.Helper()
	for what, do := range calls(f, a, b) {
		if n, got := do(); got != e || n > 0 {
			t.Errorf("%s, field %d, a = %s, b = %s: %d, and %d lists or elements beside it, not %d", what, f, sample.Brief(a), sample.Brief(b), got, n, e)
		}
	}
}

func TestNoField(t *testing.T) {
	lists := append([][]uint64{nil, l(0), l(1), l(1, 2), l(math.MaxUint64)}, sample.TooLong(api.Small, 2048)...)
	for _, f := range sample.NoFields() {
		for _, a := range lists {
			for _, b := range lists {
				wantError(t, f, a, b, api.ErrArg)
			}
		}
	}
}

func TestNoElement(t *testing.T) {
	for _, f := range sample.Fields() {
		// What is no element comes ahead of a length, past this layer's limit and past poly's, and of a polynomial that is 0.
		others := [][]uint64{nil, l(0), l(0, 0), l(1), l(1, 2), make([]uint64, 2049), sample.Run(f, 1, 4097)}
		for _, a := range sample.Faulty(f) {
			for _, b := range others {
				wantError(t, f, a, b, api.ErrArg)
			}
		}
	}
	// What is an element of the one field is none of the other.
	wantError(t, api.Small, l(sample.Prime(api.Large)-1), l(1), api.ErrArg)
	wantError(t, api.Small, l(0, sample.Prime(api.Small)), l(1), api.ErrArg)
	wantZero(t, api.Large, l(sample.Prime(api.Small)), l(sample.Prime(api.Large)-sample.Prime(api.Small), 1), api.OK)
}

func TestListsPastTheLimit(t *testing.T) {
	for _, f := range sample.Fields() {
		for _, a := range slices.Concat(sample.TooLong(f, 2048), sample.TooLong(f, 4096)) {
			// A length comes ahead of a polynomial that is 0, whichever of the lists is too long.
			for _, b := range [][]uint64{nil, l(0), l(0, 0), l(1), l(1, 2), sample.Run(f, 7, 2048), a} {
				wantError(t, f, a, b, api.ErrLimit)
			}
		}
	}
}

func TestTooManyPolynomials(t *testing.T) {
	for _, f := range sample.Fields() {
		for _, p := range [][]uint64{nil, l(0), l(1), sample.Run(f, 1, 20), sample.Run(f, 1, 2048)} {
			for _, q := range [][]uint64{nil, l(0), l(1), l(3, 1), sample.Power(30)} {
				for _, n := range []int{2049, 2050, 4096, 4097, 10000} {
					wantRemainders(t, f, p, slices.Repeat([][]uint64{q}, n), nil, api.ErrLimit)
				}
			}
			wantRemainders(t, f, p, slices.Repeat([][]uint64{l(1)}, 2048), make([][]uint64, 2048), api.OK)
		}
	}
}

func TestRemaindersByZero(t *testing.T) {
	for _, f := range sample.Fields() {
		for _, p := range slices.Concat(sample.Polys(f), noughts(), [][]uint64{sample.Run(f, 1, 2048)}) {
			for _, zero := range noughts() {
				for _, m := range [][][]uint64{{zero}, {zero, zero}, {zero, l(1)}, {l(1), zero}, {l(0, 1), zero, l(1)}, {p, l(0, 1), zero}, append(slices.Repeat([][]uint64{l(2, 1)}, 2047), zero)} {
					wantRemainders(t, f, p, m, nil, api.ErrZero)
				}
			}
		}
	}
}
