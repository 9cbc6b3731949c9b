package tree

// P6.4: what follows.

import (
	"slices"
	"testing"

	"conclave/api"
	"conclave/poly"
	"conclave/sample"
)

func zero(t *testing.T, f api.Field, xs []uint64) []uint64 {
	t.Helper()
	p, e := Zero(f, xs)
	if e != api.OK {
		t.Fatalf("Zero(%d, %s): %d", f, sample.Brief(xs), e)
	}
	return p
}

func slope(t *testing.T, f api.Field, p []uint64) []uint64 {
	t.Helper()
	x, e := Slope(f, p)
	if e != api.OK {
		t.Fatalf("Slope(%d, %s): %d", f, sample.Brief(p), e)
	}
	return x
}

func TestZeroIsTheLastLevel(t *testing.T) {
	for _, f := range sample.Fields() {
		for _, xs := range append(points(f), sample.Run(f, 1, 2047), sample.Run(f, 1, 2048)) {
			levels, e := Tree(f, xs)
			if len(xs) == 0 {
				if len(levels) > 0 || e != api.OK {
					t.Errorf("Tree(%d, none) has %d levels, %d", f, len(levels), e)
				}
				continue
			}
			if e != api.OK || !same(levels[len(levels)-1], [][]uint64{zero(t, f, xs)}) {
				t.Errorf("Zero(%d, %s) is not the last of %d levels, %d", f, sample.Brief(xs), len(levels), e)
			}
		}
	}
}

func TestZeroIsZeroThereAlone(t *testing.T) {
	for _, f := range sample.Fields() {
		for _, xs := range points(f) {
			p := zero(t, f, xs)
			for _, x := range slices.Concat(xs, sample.Elements(f)) {
				if y, _ := poly.Eval(f, p, x); (y == 0) != slices.Contains(xs, x) {
					t.Errorf("field %d: Zero of %s is %d at %d", f, sample.Brief(xs), y, x)
				}
			}
		}
	}
}

func TestTheRemainderByAFactorIsTheValue(t *testing.T) {
	for _, f := range sample.Fields() {
		for _, p := range append(sample.Polys(f), sample.Run(f, 20, 700)) {
			for _, xs := range points(f) {
				var m [][]uint64
				for _, x := range xs {
					m = append(m, zero(t, f, l(x)))
				}
				rems, e := Remainders(f, p, m)
				values, e2 := Values(f, p, xs)
				if e != api.OK || e2 != api.OK || len(rems) != len(xs) || len(values) != len(xs) {
					t.Fatalf("field %d, %s at %s: %d remainders, %d, %d values, %d", f, sample.Brief(p), sample.Brief(xs), len(rems), e, len(values), e2)
				}
				for i := range xs {
					if !slices.Equal(rems[i], poly.Trim(values[i:i+1])) {
						t.Errorf("field %d, %s at %d: %d, the remainder is %d", f, sample.Brief(p), xs[i], values[i], rems[i])
					}
				}
			}
		}
	}
}

func TestTheSlopeOfAProduct(t *testing.T) {
	for _, f := range sample.Fields() {
		lists := append(sample.Polys(f), zeroBy(f, l(1, 2, 3)), sample.Run(f, 2, 300), sample.Power(700))
		for _, p := range lists {
			for _, q := range lists {
				whole := slope(t, f, times(f, p, q))
				parts := plus(f, times(f, slope(t, f, p), q), times(f, p, slope(t, f, q)))
				if !slices.Equal(whole, parts) {
					t.Errorf("field %d: the slope of %s times %s is %s, not %s", f, sample.Brief(p), sample.Brief(q), sample.Brief(whole), sample.Brief(parts))
				}
			}
		}
		p, q := sample.Run(f, 2, 1024), sample.Run(f, 5, 1025)
		if !slices.Equal(slope(t, f, times(f, p, q)), plus(f, times(f, slope(t, f, p), q), times(f, p, slope(t, f, q)))) {
			t.Errorf("field %d: the slope of a product of 2048 elements is not that of its factors", f)
		}
	}
}

// Each level's polynomials are, together, the last level's.
func TestEachLevelHasAllFactors(t *testing.T) {
	for _, f := range sample.Fields() {
		for _, xs := range points(f) {
			levels, _ := Tree(f, xs)
			for i, level := range levels {
				product := l(1)
				for _, p := range level {
					product = times(f, product, p)
				}
				if !slices.Equal(product, zero(t, f, xs)) {
					t.Errorf("field %d, %s: the level %d makes %s", f, sample.Brief(xs), i, sample.Brief(product))
				}
			}
		}
	}
}
