package poly

// P3.4: what follows.

import (
	"slices"
	"testing"

	"conclave/api"
	"conclave/field"
	"conclave/sample"
)

type element func(f api.Field, a, b uint64) (uint64, api.Errno)

// goesThrough holds the value of what do makes of p and q against what at makes of their values.
func goesThrough(t *testing.T, what string, do binary, at element, f api.Field, p, q, xs []uint64) {
	t.Helper()
	l := must(t, do, f, p, q)
	for _, x := range xs {
		y := value(t, f, l, x)
		z, e := at(f, value(t, f, p, x), value(t, f, q, x))
		if y != z || e != api.OK {
			t.Errorf("field %d, %s and %s: %s has the value %d at %d, not %d", f, sample.Brief(p), sample.Brief(q), what, y, x, z)
		}
	}
}

func goesThroughInto(t *testing.T, f api.Field, p, q, xs []uint64) {
	t.Helper()
	l := must(t, Into, f, p, q)
	for _, x := range xs {
		if y, z := value(t, f, l, x), value(t, f, p, value(t, f, q, x)); y != z {
			t.Errorf("Into(%d, %s, %s) has the value %d at %d, not %d", f, sample.Brief(p), sample.Brief(q), y, x, z)
		}
	}
}

func TestEvalGoesThrough(t *testing.T) {
	for _, f := range sample.Fields() {
		xs := append([]uint64{0, 1, 2, sample.Prime(f) - 1}, sample.Scattered(f, 5)...)
		for _, p := range sample.Polys(f) {
			for _, q := range sample.Polys(f) {
				goesThrough(t, "the sum", Add, field.Add, f, p, q, xs)
				goesThrough(t, "the difference", Sub, field.Sub, f, p, q, xs)
				goesThrough(t, "the product", Mul, field.Mul, f, p, q, xs)
				if len(p)*len(q) < api.MaxPoly {
					goesThroughInto(t, f, p, q, xs)
				}
			}
		}
	}
}

func TestEvalGoesThroughLongLists(t *testing.T) {
	for _, f := range sample.Fields() {
		xs := append([]uint64{0, 1, sample.Prime(f) - 1}, sample.Scattered(f, 5)...)
		p, q := sample.Run(f, 1, api.MaxPoly), sample.Run(f, 50, api.MaxPoly)
		goesThrough(t, "the sum", Add, field.Add, f, p, q, xs)
		goesThrough(t, "the difference", Sub, field.Sub, f, p, q, xs)
		goesThrough(t, "the product", Mul, field.Mul, f, p[:2048], q[:2049], xs)
		goesThrough(t, "the product", Mul, field.Mul, f, p[:4095], q[:2], xs)
		for _, n := range []int{1, 63, 4095} {
			goesThroughInto(t, f, sample.Run(f, 4, n+1), sample.Run(f, 90, 4095/n+1), xs)
		}
	}
}

func TestDegreeOfAProduct(t *testing.T) {
	for _, f := range sample.Fields() {
		for _, p := range sample.Polys(f) {
			for _, q := range sample.Polys(f) {
				degree := Degree(p) + Degree(q)
				if Degree(p) < 0 || Degree(q) < 0 {
					degree = -1
				}
				if n := Degree(must(t, Mul, f, p, q)); n != degree {
					t.Errorf("field %d: the product of %s and %s has the degree %d, not %d", f, sample.Brief(p), sample.Brief(q), n, degree)
				}
			}
		}
		if n := Degree(must(t, Mul, f, sample.Run(f, 1, 2048), sample.Run(f, 2, 2049))); n != 4095 {
			t.Errorf("field %d: the degree %d, not 4095", f, n)
		}
	}
}

// back holds quotient times divisor and remainder against what was divided.
func back(t *testing.T, f api.Field, p, q []uint64) {
	t.Helper()
	quo, rem, e := DivMod(f, p, q)
	if e != api.OK {
		t.Fatalf("DivMod(%d, %s, %s): %d", f, sample.Brief(p), sample.Brief(q), e)
	}
	if Degree(rem) >= Degree(q) {
		t.Errorf("DivMod(%d, %s, %s): the remainder %s is not below the divisor", f, sample.Brief(p), sample.Brief(q), sample.Brief(rem))
	}
	if l := must(t, Add, f, must(t, Mul, f, quo, q), rem); !slices.Equal(l, Trim(p)) {
		t.Errorf("DivMod(%d, %s, %s) = %s, %s, which is %s", f, sample.Brief(p), sample.Brief(q), sample.Brief(quo), sample.Brief(rem), sample.Brief(l))
	}
}

func TestQuotientAndRemainderAreWhatWasDivided(t *testing.T) {
	for _, f := range sample.Fields() {
		for _, p := range sample.Polys(f) {
			for _, q := range sample.Polys(f) {
				if Degree(q) >= 0 {
					back(t, f, p, q)
				}
			}
		}
		for _, n := range []int{1, 2, 1000, 2048, 4096} {
			back(t, f, sample.Run(f, 1, api.MaxPoly), sample.Run(f, 60, n))
			back(t, f, sample.Power(4095), sample.Run(f, 60, n))
		}
	}
}
