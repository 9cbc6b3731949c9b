package fast

// P4.1 to P4.3: the errors, which of them comes first, and what stands beside them.

import (
	"math"
	"slices"
	"testing"

	"conclave/api"
	"conclave/poly"
	"conclave/sample"
)

func ones() map[string]unary {
	return map[string]unary{"Transform": Transform, "Back": Back}
}

func twos() map[string]binary {
	return map[string]binary{"Kara": Kara, "Mul": Mul, "Round": Round}
}

// wantError has each call with two lists answer e, and nothing beside it.
func wantError(t *testing.T, f api.Field, p, q []uint64, e api.Errno) {
	t.Helper()
	for what, do := range twos() {
		want(t, what, do, f, p, q, nil, e)
		want(t, what, do, f, q, p, nil, e)
	}
}

// wantErrorOfOne has each call with one list answer e, Power with the exponents ns.
func wantErrorOfOne(t *testing.T, f api.Field, p []uint64, e api.Errno, ns ...int) {
	t.Helper()
	for what, do := range ones() {
		wantOne(t, what, do, f, p, nil, e)
	}
	for _, n := range ns {
		wantPower(t, f, p, n, nil, e)
	}
}

// noTransform are lists of elements, within the limit, of no length that a transform takes.
func noTransform() [][]uint64 {
	lists := [][]uint64{nil, {}}
	for _, n := range []int{3, 5, 6, 7, 9, 12, 15, 17, 31, 33, 100, 1023, 1025, 2047, 3072, 4095} {
		lists = append(lists, slices.Repeat(l(1), n), make([]uint64, n))
	}
	return lists
}

func TestNoField(t *testing.T) {
	lists := slices.Concat([][]uint64{l(0), l(1), l(1, 2), l(math.MaxUint64)}, noTransform(), sample.TooLong(api.Small, api.MaxPoly))
	for _, f := range sample.NoFields() {
		for _, p := range lists {
			wantErrorOfOne(t, f, p, api.ErrArg, -1, 0, 1, 4096, math.MaxInt)
			for _, q := range lists {
				wantError(t, f, p, q, api.ErrArg)
			}
		}
	}
}

func TestNoElement(t *testing.T) {
	for _, f := range sample.Fields() {
		// What is no element comes ahead of a length, of one that is too great and of one that is wrong.
		others := append([][]uint64{nil, l(0), l(1), l(1, 2), l(1, 2, 3), sample.Run(f, 1, 4096)}, sample.TooLong(f, api.MaxPoly)...)
		for _, p := range sample.Faulty(f) {
			wantErrorOfOne(t, f, p, api.ErrArg, -1, 0, 1, 4096, math.MaxInt)
			wantError(t, f, p, p, api.ErrArg)
			for _, q := range others {
				wantError(t, f, p, q, api.ErrArg)
			}
		}
	}
	// What is an element of the one field is none of the other.
	wantError(t, api.Small, l(1), l(sample.Prime(api.Large)-1), api.ErrArg)
	wantErrorOfOne(t, api.Small, l(sample.Prime(api.Small)), api.ErrArg, 0, 1)
	wantOne(t, "Transform", Transform, api.Large, l(sample.Prime(api.Small)), l(sample.Prime(api.Small)), api.OK)
}

func TestExponentBelowZero(t *testing.T) {
	for _, f := range sample.Fields() {
		for _, n := range []int{-1, -2, -4096, math.MinInt + 1, math.MinInt} {
			for _, p := range slices.Concat(sample.Polys(f), sample.TooLong(f, api.MaxPoly), sample.Faulty(f)) {
				wantPower(t, f, p, n, nil, api.ErrArg)
			}
		}
	}
}

func TestListsPastTheLimit(t *testing.T) {
	for _, f := range sample.Fields() {
		for _, p := range sample.TooLong(f, api.MaxPoly) {
			wantErrorOfOne(t, f, p, api.ErrLimit, 0, 1, 2, math.MaxInt)
			wantError(t, f, p, p, api.ErrLimit)
			// A length past the limit comes ahead of one that is wrong, whichever of the two has it.
			for _, q := range [][]uint64{nil, l(0), l(1), l(1, 2, 3), sample.Run(f, 1, 4096), sample.Run(f, 1, 4095)} {
				wantError(t, f, p, q, api.ErrLimit)
			}
		}
	}
}

func TestNoListsForATransform(t *testing.T) {
	for _, f := range sample.Fields() {
		for _, p := range noTransform() {
			wantErrorOfOne(t, f, p, api.ErrShape)
			want(t, "Round", Round, f, p, p, nil, api.ErrShape)
			for _, n := range []int{1, 2, 64, 4096} {
				want(t, "Round", Round, f, p, sample.Run(f, 1, n), nil, api.ErrShape)
				want(t, "Round", Round, f, sample.Run(f, 1, n), p, nil, api.ErrShape)
			}
		}
	}
}

func TestListsThatAreNotOfOneLength(t *testing.T) {
	for _, f := range sample.Fields() {
		for a := range 13 {
			for b := range 13 {
				if a != b {
					want(t, "Round", Round, f, sample.Run(f, 1, 1<<a), sample.Run(f, 1, 1<<b), nil, api.ErrShape)
				}
			}
		}
	}
}

// Products and powers take lists of any length up to the limit.
func TestProductsHaveNoShape(t *testing.T) {
	for _, f := range sample.Fields() {
		for _, p := range noTransform() {
			wantProduct(t, f, p, l(1, 2))
			wantProduct(t, f, p, l(5))
			wantPower(t, f, p, 1, poly.Trim(p), api.OK)
		}
	}
}
