package euclid

// P5.1 to P5.3: the errors, which of them comes first, and what stands beside them.

import (
	"math"
	"slices"
	"testing"

	"conclave/api"
	"conclave/poly"
	"conclave/sample"
)

// call is one of this layer's, of two lists and a stop: all its lists, its bool (false, if it has none), its error.
type call func(f api.Field, a, b []uint64, stop int) ([][]uint64, bool, api.Errno)

func calls() map[string]call {
	return map[string]call{
		"Partial": func(f api.Field, a, b []uint64, stop int) ([][]uint64, bool, api.Errno) {
			r, u, v, e := Partial(f, a, b, stop)
			return [][]uint64{r, u, v}, false, e
		},
		"GCD": func(f api.Field, a, b []uint64, _ int) ([][]uint64, bool, api.Errno) {
			x, e := GCD(f, a, b)
			return [][]uint64{x}, false, e
		},
		"Modulo": func(f api.Field, a, b []uint64, _ int) ([][]uint64, bool, api.Errno) {
			x, ok, e := Modulo(f, a, b)
			return [][]uint64{x}, ok, e
		},
		"Ratio": func(f api.Field, a, b []uint64, stop int) ([][]uint64, bool, api.Errno) {
			n, d, ok, e := Ratio(f, a, b, stop)
			return [][]uint64{n, d}, ok, e
		},
	}
}

// wantError has each call answer e, whichever of the two lists goes first, and nothing beside it.
func wantError(t *testing.T, f api.Field, a, b []uint64, stop int, e api.Errno) {
	t.Helper()
	for what, do := range calls() {
		for range 2 {
			lists, ok, got := do(f, a, b, stop)
			if got != e {
				t.Errorf("%s(%d, %s, %s, %d): %d, not %d", what, f, sample.Brief(a), sample.Brief(b), stop, got, e)
			}
			if ok || slices.ContainsFunc(lists, func(x []uint64) bool { return len(x) > 0 }) {
				t.Errorf("%s(%d, %s, %s, %d): %d, and %d, %v beside it", what, f, sample.Brief(a), sample.Brief(b), stop, got, lists, ok)
			}
			a, b = b, a
		}
	}
}

func TestNoField(t *testing.T) {
	lists := append([][]uint64{nil, l(0), l(1), l(1, 2), l(math.MaxUint64)}, sample.TooLong(api.Small, 2048)...)
	for _, f := range sample.NoFields() {
		for _, a := range lists {
			for _, b := range lists {
				wantError(t, f, a, b, 1, api.ErrArg)
			}
			wantError(t, f, a, a, -1, api.ErrArg)
		}
	}
}

func TestNoElement(t *testing.T) {
	for _, f := range sample.Fields() {
		// What is no element comes ahead of a length, past this layer's limit and past poly's, and of an m that is 0.
		others := slices.Concat([][]uint64{nil, l(0), l(0, 0), l(1), l(1, 2), sample.Run(f, 1, 2048)}, sample.TooLong(f, 2048), sample.TooLong(f, 4096))
		for _, a := range sample.Faulty(f) {
			for _, b := range others {
				wantError(t, f, a, b, 1, api.ErrArg)
			}
			wantError(t, f, a, a, 0, api.ErrArg)
			wantError(t, f, a, nil, -1, api.ErrArg)
		}
	}
	// What is an element of the one field is none of the other.
	wantError(t, api.Small, l(1), l(sample.Prime(api.Large)-1), 1, api.ErrArg)
	wantError(t, api.Small, l(1), l(0, sample.Prime(api.Small)), 1, api.ErrArg)
	wantGCD(t, api.Large, l(sample.Prime(api.Small)), l(0, 1), l(1), api.OK)
}

func TestStopBelowZero(t *testing.T) {
	for _, f := range sample.Fields() {
		for _, stop := range []int{-1, -2, -2048, math.MinInt + 1, math.MinInt} {
			for _, a := range slices.Concat(sample.Polys(f), sample.TooLong(f, 2048)) {
				for _, b := range [][]uint64{nil, l(0), l(1), l(1, 2), make([]uint64, 2049), a} {
					wantPartial(t, f, a, b, stop, nil, nil, nil, api.ErrArg)
					wantPartial(t, f, b, a, stop, nil, nil, nil, api.ErrArg)
					wantRatio(t, f, a, b, stop, nil, nil, false, api.ErrArg)
					wantRatio(t, f, b, a, stop, nil, nil, false, api.ErrArg)
				}
			}
		}
	}
}

func TestListsPastTheLimit(t *testing.T) {
	for _, f := range sample.Fields() {
		for _, a := range slices.Concat(sample.TooLong(f, 2048), sample.TooLong(f, 4096)) {
			// A length comes ahead of an m that is 0, whichever of the two is too long.
			for _, b := range append(noughts(), l(1), l(1, 2), sample.Run(f, 7, 2048), a) {
				for _, stop := range []int{0, 1, 2049, math.MaxInt} {
					wantError(t, f, a, b, stop, api.ErrLimit)
				}
			}
		}
	}
}

func TestListsAtTheLimit(t *testing.T) {
	for _, f := range sample.Fields() {
		for _, a := range [][]uint64{make([]uint64, 2048), sample.Padded(l(3), 2048), sample.Power(2047), sample.Run(f, 2, 2048)} {
			wantPartial(t, f, a, a, 2048, poly.Trim(a), l(1), nil, api.OK)
			wantPartial(t, f, a, nil, 2048, poly.Trim(a), l(1), nil, api.OK)
			wantPartial(t, f, nil, a, 2048, nil, l(1), nil, api.OK)
			wantGCD(t, f, a, a, topOne(f, a), api.OK)
			if poly.Degree(a) >= 0 {
				wantModulo(t, f, a, a, nil, poly.Degree(a) == 0, api.OK)
				wantRatio(t, f, nil, a, 0, nil, l(1), true, api.OK)
			}
		}
	}
}

func TestModuloZero(t *testing.T) {
	for _, f := range sample.Fields() {
		for _, a := range append(sample.Polys(f), sample.Run(f, 1, 2048), make([]uint64, 2048)) {
			for _, zero := range noughts() {
				wantModulo(t, f, a, zero, nil, false, api.ErrZero)
				for _, stop := range []int{0, 1, 2048, math.MaxInt} {
					wantRatio(t, f, a, zero, stop, nil, nil, false, api.ErrZero)
				}
			}
		}
	}
}
