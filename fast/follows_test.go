package fast

// P4.4: what follows.

import (
	"slices"
	"testing"

	"conclave/api"
	"conclave/poly"
	"conclave/sample"
)

// made stops a test that leans on a call that answered an error.
func made(t *testing.T, x []uint64, e api.Errno) []uint64 {
	if e != api.OK {
		t.Helper()
		t.Fatalf("error %d", e)
	}
	return x
}

func transformed(t *testing.T, f api.Field, p []uint64) []uint64 {
	t.Helper()
	x, e := Transform(f, p)
	return made(t, x, e)
}

func takenBack(t *testing.T, f api.Field, p []uint64) []uint64 {
	t.Helper()
	x, e := Back(f, p)
	return made(t, x, e)
}

func roundProduct(t *testing.T, f api.Field, a, b []uint64) []uint64 {
	t.Helper()
	x, e := Round(f, a, b)
	return made(t, x, e)
}

func placeByPlace(f api.Field, do func(f api.Field, a, b uint64) uint64, p, q []uint64) []uint64 {
	x := make([]uint64, len(p))
	for i := range x {
		x[i] = do(f, p[i], q[i])
	}
	return x
}

func TestBackAndForthIsTheList(t *testing.T) {
	for _, f := range sample.Fields() {
		for log := range 13 {
			for _, p := range forTransforms(f, log) {
				if x := takenBack(t, f, transformed(t, f, p)); !slices.Equal(x, p) {
					t.Errorf("field %d: Back of Transform of %s is %s", f, sample.Brief(p), sample.Brief(x))
				}
				if x := transformed(t, f, takenBack(t, f, p)); !slices.Equal(x, p) {
					t.Errorf("field %d: Transform of Back of %s is %s", f, sample.Brief(p), sample.Brief(x))
				}
			}
		}
	}
}

func TestTransformGoesThroughSumsAndRoundProducts(t *testing.T) {
	for _, f := range sample.Fields() {
		for log := range 13 {
			lists := forTransforms(f, log)
			for i, p := range lists {
				q := lists[(i+3)%len(lists)]
				x, y := transformed(t, f, p), transformed(t, f, q)
				if z := transformed(t, f, placeByPlace(f, plus, p, q)); !slices.Equal(z, placeByPlace(f, plus, x, y)) {
					t.Errorf("field %d: the sum of %s and %s has the transform %s", f, sample.Brief(p), sample.Brief(q), sample.Brief(z))
				}
				if z := transformed(t, f, roundProduct(t, f, p, q)); !slices.Equal(z, placeByPlace(f, times, x, y)) {
					t.Errorf("field %d: the round product of %s and %s has the transform %s", f, sample.Brief(p), sample.Brief(q), sample.Brief(z))
				}
			}
		}
	}
}

func TestProductsThatDoNotComeRound(t *testing.T) {
	for _, f := range sample.Fields() {
		for log := range 13 {
			n := 1 << log
			// The degrees are together just n - 1, and less.
			for _, c := range [][2]int{{1, n}, {n, 1}, {(n + 1) / 2, n/2 + 1}, {1, 1}, {n/3 + 1, n/2 + 1}} {
				p, q := sample.Run(f, 1, c[0]), sample.Run(f, 60, c[1])
				if c[0]+c[1]-1 > n {
					continue
				}
				product, e := Mul(f, p, q)
				x := roundProduct(t, f, sample.Padded(p, n), sample.Padded(q, n))
				if !slices.Equal(poly.Trim(x), made(t, product, e)) {
					t.Errorf("field %d: the round product of %s and %s, %d elements, is %s", f, sample.Brief(p), sample.Brief(q), n, sample.Brief(x))
				}
			}
		}
	}
}

// One degree more, and the topmost element comes to stand with the first.
func TestProductsThatComeRound(t *testing.T) {
	for _, f := range sample.Fields() {
		for _, n := range []int{2, 4, 64, 4096} {
			p, q := sample.Padded(l(1, 1), n), sample.Run(f, 5, n)
			x := slices.Clone(q)
			for i := range x {
				x[i] = plus(f, q[i], q[(i+n-1)%n])
			}
			want(t, "Round", Round, f, p, q, x, api.OK)
		}
	}
}
