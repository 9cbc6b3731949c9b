package poly

// P3.2, P3.3: the errors, which of them comes first, and what stands beside them.

import (
	"math"
	"testing"

	"conclave/api"
	"conclave/sample"
)

// calls are the calls that take two polynomials, each as one that answers all its lists.
func calls() map[string]func(f api.Field, p, q []uint64) ([][]uint64, api.Errno) {
	one := func(do binary) func(f api.Field, p, q []uint64) ([][]uint64, api.Errno) {
		return func(f api.Field, p, q []uint64) ([][]uint64, api.Errno) {
			x, e := do(f, p, q)
			return [][]uint64{x}, e
		}
	}
	return map[string]func(f api.Field, p, q []uint64) ([][]uint64, api.Errno){
		"Add": one(Add), "Sub": one(Sub), "Mul": one(Mul), "Into": one(Into),
		"DivMod": func(f api.Field, p, q []uint64) ([][]uint64, api.Errno) {
			x, y, e := DivMod(f, p, q)
			return [][]uint64{x, y}, e
		},
	}
}

// wantError has each call with two polynomials answer e, and nothing beside it.
func wantError(t *testing.T, f api.Field, p, q []uint64, e api.Errno) {
	t.Helper()
	for what, do := range calls() {
		lists, r := do(f, p, q)
		if r != e {
			t.Errorf("%s(%d, %s, %s): %d, not %d", what, f, sample.Brief(p), sample.Brief(q), r, e)
		}
		for _, x := range lists {
			if len(x) != 0 {
				t.Errorf("%s(%d, %s, %s): %d, and %s beside it", what, f, sample.Brief(p), sample.Brief(q), r, sample.Brief(x))
			}
		}
	}
}

func TestNoField(t *testing.T) {
	lists := append([][]uint64{nil, l(0), l(1), l(1, 2), l(math.MaxUint64)}, sample.TooLong(api.Small, api.MaxPoly)...)
	for _, f := range sample.NoFields() {
		for _, p := range lists {
			for _, q := range lists {
				wantError(t, f, p, q, api.ErrArg)
			}
			for _, c := range []uint64{0, 1, math.MaxUint64} {
				want(t, "Scale", scale, f, l(c), p, nil, api.ErrArg)
				wantEval(t, f, p, c, 0, api.ErrArg)
			}
		}
	}
}

func TestNoElement(t *testing.T) {
	for _, f := range sample.Fields() {
		// What is no element comes ahead of a length, and of a divisor 0.
		others := append([][]uint64{nil, l(0), l(0, 0), l(1), l(1, 2)}, sample.TooLong(f, api.MaxPoly)...)
		for _, p := range sample.Faulty(f) {
			for _, q := range others {
				wantError(t, f, p, q, api.ErrArg)
				wantError(t, f, q, p, api.ErrArg)
			}
			wantError(t, f, p, p, api.ErrArg)
			for _, c := range []uint64{0, 1, sample.Prime(f)} {
				want(t, "Scale", scale, f, l(c), p, nil, api.ErrArg)
				wantEval(t, f, p, c, 0, api.ErrArg)
			}
		}
		for _, c := range sample.Outside(f) {
			for _, p := range others {
				want(t, "Scale", scale, f, l(c), p, nil, api.ErrArg)
				wantEval(t, f, p, c, 0, api.ErrArg)
			}
		}
	}
	// What is an element of the one field is none of the other.
	wantError(t, api.Small, l(1), l(sample.Prime(api.Large)-1), api.ErrArg)
	wantError(t, api.Small, l(sample.Prime(api.Small)), l(1), api.ErrArg)
	want(t, "Add", Add, api.Large, l(sample.Prime(api.Small)), l(1), l(sample.Prime(api.Small)+1), api.OK)
}

func TestListsPastTheLimit(t *testing.T) {
	for _, f := range sample.Fields() {
		for _, p := range sample.TooLong(f, api.MaxPoly) {
			// A length comes ahead of a divisor 0, whichever of the two is too long.
			for _, q := range [][]uint64{nil, l(0), l(1), l(1, 2), sample.Run(f, 7, api.MaxPoly)} {
				wantError(t, f, p, q, api.ErrLimit)
				wantError(t, f, q, p, api.ErrLimit)
			}
			wantError(t, f, p, p, api.ErrLimit)
			for _, c := range []uint64{0, 1, sample.Prime(f) - 1} {
				want(t, "Scale", scale, f, l(c), p, nil, api.ErrLimit)
				wantEval(t, f, p, c, 0, api.ErrLimit)
			}
		}
	}
}

func TestListsAtTheLimit(t *testing.T) {
	for _, f := range sample.Fields() {
		for _, p := range [][]uint64{make([]uint64, 4096), sample.Padded(l(3), 4096), sample.Power(4095), sample.Run(f, 2, 4096)} {
			q := sample.Run(f, 30, 4096)
			want(t, "Add", Add, f, p, q, addBy(f, p, q), api.OK)
			want(t, "Sub", Sub, f, p, q, subBy(f, p, q), api.OK)
			want(t, "Sub", Sub, f, q, p, subBy(f, q, p), api.OK)
			want(t, "Scale", scale, f, l(5), p, mulBy(f, l(5), p), api.OK)
			want(t, "Mul", Mul, f, p, l(5), mulBy(f, p, l(5)), api.OK)
			want(t, "Mul", Mul, f, l(5), p, mulBy(f, p, l(5)), api.OK)
			want(t, "Mul", Mul, f, p, make([]uint64, 4096), nil, api.OK)
			wantEval(t, f, p, 3, evalBy(f, p, 3), api.OK)
			wantDivMod(t, f, p, l(1), Trim(p), nil, api.OK)
			want(t, "Into", Into, f, p, l(0, 1), Trim(p), api.OK)
		}
	}
}

func TestProductsAtTheLimit(t *testing.T) {
	for _, f := range sample.Fields() {
		for _, n := range []int{1, 2, 3, 1000, 2048, 2049, 4095, 4096} {
			p, q := sample.Power(n-1), sample.Run(f, 8, 4097-n)
			product := append(make([]uint64, n-1), q...)
			want(t, "Mul", Mul, f, p, q, product, api.OK)
			want(t, "Mul", Mul, f, q, p, product, api.OK)
			// Noughts at the end count for nothing: it is the product that must not be too long.
			want(t, "Mul", Mul, f, sample.Padded(p, 4096), sample.Padded(q, 4096), product, api.OK)
			if n > 1 {
				more := sample.Run(f, 8, 4098-n)
				want(t, "Mul", Mul, f, p, more, nil, api.ErrLimit)
				want(t, "Mul", Mul, f, more, p, nil, api.ErrLimit)
			}
		}
		p := sample.Run(f, 8, 4096)
		want(t, "Mul", Mul, f, p, p, nil, api.ErrLimit)
		half := sample.Run(f, 9, 2048)
		want(t, "Mul", Mul, f, half, half[:2000], mulBy(f, half, half[:2000]), api.OK)
	}
}

func TestIntoAtTheLimit(t *testing.T) {
	for _, f := range sample.Fields() {
		for _, c := range [][2]int{{2, 2048}, {2048, 2}, {64, 64}, {4, 1024}, {1024, 4}, {512, 8}, {4095, 2}, {2, 4095}, {4095, 4095}, {1365, 4}, {241, 17}} {
			p, q := sample.Run(f, 1, c[0]+1), sample.Run(f, 2, c[1]+1)
			want(t, "Into", Into, f, p, q, nil, api.ErrLimit)
			want(t, "Into", Into, f, sample.Padded(p, 4096), sample.Padded(q, 4096), nil, api.ErrLimit)
		}
		for _, c := range [][2]int{{1, 4095}, {63, 65}} {
			p, q := sample.Power(c[0]), sample.Power(c[1])
			want(t, "Into", Into, f, sample.Padded(p, 4096), sample.Padded(q, 4096), sample.Power(4095), api.OK)
			want(t, "Into", Into, f, sample.Padded(q, 4096), sample.Padded(p, 4096), sample.Power(4095), api.OK)
		}
	}
}

func TestDivisorZero(t *testing.T) {
	for _, f := range sample.Fields() {
		for _, p := range append(sample.Polys(f), sample.Run(f, 1, 4096)) {
			for _, q := range [][]uint64{nil, {}, l(0), l(0, 0, 0), make([]uint64, 4096)} {
				wantDivMod(t, f, p, q, nil, nil, api.ErrZero)
			}
			wantDivMod(t, f, p, make([]uint64, 4097), nil, nil, api.ErrLimit)
			wantDivMod(t, f, p, l(0, sample.Prime(f)), nil, nil, api.ErrArg)
		}
	}
}
