package interp

// P7.4: what follows.

import (
	"slices"
	"testing"

	"conclave/api"
	"conclave/field"
	"conclave/poly"
	"conclave/sample"
)

func change(t *testing.T, f api.Field, xs, zs []uint64) [][]uint64 {
	t.Helper()
	rows, e := Change(f, xs, zs)
	if e != api.OK || len(rows) != len(zs) {
		t.Fatalf("Change(%d, %s, %s) has %d rows, %d", f, sample.Brief(xs), sample.Brief(zs), len(rows), e)
	}
	return rows
}

func TestAPolynomialIsTheOneThroughItsValues(t *testing.T) {
	for _, f := range sample.Fields() {
		for _, p := range append(sample.Polys(f), sample.Power(100)) {
			for _, more := range []int{0, 1, 2, 30} {
				for _, from := range []int{0, 7, 200} {
					xs := sample.Unlike(f, from, poly.Degree(p)+1+more)
					wantThrough(t, f, xs, valuesBy(f, p, xs), poly.Trim(p), api.OK)
				}
			}
		}
		xs := sample.Unlike(f, 0, 512)
		for _, p := range [][]uint64{sample.Run(f, 1, 512), sample.Run(f, 2, 511), sample.Run(f, 3, 256), sample.Power(511)} {
			wantThrough(t, f, xs, valuesBy(f, p, xs), p, api.OK)
		}
	}
}

func TestValueIsTheDotOfBasisAndValues(t *testing.T) {
	for _, f := range sample.Fields() {
		for _, xs := range append(places(f), sample.Unlike(f, 0, 512)) {
			ys := sample.Run(f, 6, len(xs))
			for _, x := range append(sample.Unlike(f, 20, 20), xs[:min(len(xs), 20)]...) {
				row, e := Basis(f, xs, x)
				dot, e2 := field.Dot(f, row, ys)
				if e != api.OK || e2 != api.OK {
					t.Fatalf("field %d, %s at %d: %d, %d", f, sample.Brief(xs), x, e, e2)
				}
				wantValue(t, f, xs, ys, x, dot, api.OK)
			}
		}
	}
}

func TestTheBasisOfAPlace(t *testing.T) {
	for _, f := range sample.Fields() {
		for _, xs := range append(places(f), sample.Unlike(f, 0, 100)) {
			for i, x := range xs {
				wantBasis(t, f, xs, x, with(make([]uint64, len(xs)), i, 1), api.OK)
			}
		}
	}
}

func TestABasisAddsUpToOne(t *testing.T) {
	for _, f := range sample.Fields() {
		for _, xs := range append(places(f), sample.Unlike(f, 0, 512)) {
			for _, x := range append(sample.Unlike(f, 30, 20), xs[:min(len(xs), 20)]...) {
				row, e := Basis(f, xs, x)
				sum := uint64(0)
				for _, b := range row {
					sum, _ = field.Add(f, sum, b)
				}
				if e != api.OK || len(xs) > 0 && sum != 1 || len(xs) == 0 && len(row) > 0 {
					t.Errorf("field %d: the basis of %s at %d adds up to %d, %d", f, sample.Brief(xs), x, sum, e)
				}
			}
		}
	}
}

// combined has for each row of factors the sum of the rows, each so often as its factor says.
func combined(f api.Field, factors, rows [][]uint64, wide int) [][]uint64 {
	var sums [][]uint64
	for _, row := range factors {
		sum := make([]uint64, wide)
		for i, c := range row {
			for j, b := range rows[i] {
				more, _ := field.Mul(f, c, b)
				sum[j], _ = field.Add(f, sum[j], more)
			}
		}
		sums = append(sums, sum)
	}
	return sums
}

func TestChangedToOthersAndOnIsChangedAtOnce(t *testing.T) {
	for _, f := range sample.Fields() {
		for _, xs := range append(places(f), sample.Unlike(f, 0, 100)) {
			n := len(xs)
			back := slices.Clone(xs)
			slices.Reverse(back)
			for _, zs := range [][]uint64{sample.Unlike(f, 0, n), sample.Unlike(f, 5, n), sample.Unlike(f, 300, n), xs, back} {
				for _, others := range [][]uint64{nil, l(0), l(3, 3, 1), xs, zs, sample.Unlike(f, 50, 9)} {
					on := combined(f, change(t, f, zs, others), change(t, f, xs, zs), n)
					wantChange(t, f, xs, others, on, api.OK)
				}
			}
		}
	}
}

// The highest coefficient of Lagrange's polynomial of a place is its weight, and its values are Basis's.
func TestLagrangesPolynomials(t *testing.T) {
	for _, f := range sample.Fields() {
		for _, xs := range places(f) {
			weights, _ := Weights(f, xs)
			for i := range xs {
				p, e := Through(f, xs, with(make([]uint64, len(xs)), i, 1))
				if e != api.OK || len(p) != len(xs) || len(weights) != len(xs) || p[len(p)-1] != weights[i] {
					t.Fatalf("field %d, %s, the place %d: %s, %d; the weights are %s", f, sample.Brief(xs), i, sample.Brief(p), e, sample.Brief(weights))
				}
				for _, x := range sample.Unlike(f, 10, 10) {
					row, _ := Basis(f, xs, x)
					if y, _ := poly.Eval(f, p, x); len(row) != len(xs) || row[i] != y {
						t.Errorf("field %d, %s, the place %d: %d at %d, not Basis's %s", f, sample.Brief(xs), i, y, x, sample.Brief(row))
					}
				}
			}
		}
	}
}
