package euclid

// P5.4: what follows.

import (
	"slices"
	"testing"

	"conclave/api"
	"conclave/poly"
	"conclave/sample"
)

// pairs are two polynomials each, with common factors and without, of all kinds of degrees.
func pairs(f api.Field) [][2][]uint64 {
	var all [][2][]uint64
	lists := append(sample.Polys(f), rooted(f, 1, 2, 3), rooted(f, 2, 3, 3, 5), times(f, noRoot(f), l(1, 2)), times(f, noRoot(f), l(5, 1, 7)))
	for _, a := range lists {
		for _, b := range lists {
			all = append(all, [2][]uint64{a, b})
		}
	}
	for _, n := range []int{100, 300} {
		a, b, g := sample.Run(f, 1, n), sample.Run(f, 400, n-10), sample.Run(f, 900, n/2)
		all = append(all, [2][]uint64{a, b}, [2][]uint64{times(f, a, g), times(f, b, g)}, [2][]uint64{g, times(f, a, g)})
	}
	c := chain(f, 2048)
	return append(all, [2][]uint64{c[2048], c[2047]}, [2][]uint64{sample.Run(f, 5, 2048), sample.Power(2047)})
}

func TestARowIsMadeOfBoth(t *testing.T) {
	for _, f := range sample.Fields() {
		for _, p := range pairs(f) {
			a, b := p[0], p[1]
			few := stops(a, b)
			if len(a) > 100 {
				few = []int{0, len(a) / 2, len(a) - 1}
			}
			for _, stop := range few {
				r, u, v, e := Partial(f, a, b, stop)
				if e != api.OK || !slices.Equal(r, plus(f, times(f, u, a), times(f, v, b))) || poly.Degree(r) >= stop && len(r) > 0 {
					t.Errorf("Partial(%d, %s, %s, %d) = %s; %s; %s, %d", f, sample.Brief(a), sample.Brief(b), stop, sample.Brief(r), sample.Brief(u), sample.Brief(v), e)
				}
			}
		}
	}
}

// divides tells whether p is a multiple of q; 0 is one of everything, and nothing else is one of 0.
func divides(f api.Field, q, p []uint64) bool {
	if poly.Degree(q) < 0 {
		return poly.Degree(p) < 0
	}
	return len(rest(f, p, q)) == 0
}

func gcd(t *testing.T, f api.Field, a, b []uint64) []uint64 {
	t.Helper()
	g, e := GCD(f, a, b)
	if e != api.OK {
		t.Fatalf("GCD(%d, %s, %s): %d", f, sample.Brief(a), sample.Brief(b), e)
	}
	return g
}

func TestAGCDDividesBoth(t *testing.T) {
	for _, f := range sample.Fields() {
		for _, p := range pairs(f) {
			a, b := p[0], p[1]
			g := gcd(t, f, a, b)
			if !divides(f, g, a) || !divides(f, g, b) {
				t.Errorf("field %d: %s divides not both %s and %s", f, sample.Brief(g), sample.Brief(a), sample.Brief(b))
			}
			if n := len(g); n > 0 && g[n-1] != 1 || n == 0 && poly.Degree(a)+poly.Degree(b) > -2 {
				t.Errorf("GCD(%d, %s, %s) = %s", f, sample.Brief(a), sample.Brief(b), sample.Brief(g))
			}
		}
	}
}

// What is a sum of multiples of both is divided by each common factor; so the degree of such a one, which divides both, is the greatest.
func TestAGCDIsMadeOfBoth(t *testing.T) {
	for _, f := range sample.Fields() {
		for _, p := range pairs(f) {
			a, b := p[0], p[1]
			g := gcd(t, f, a, b)
			r, u, v, e := Partial(f, a, b, len(g))
			if poly.Degree(a) < 0 {
				r, u, v, e = poly.Trim(b), nil, l(1), api.OK
			}
			if e != api.OK || !slices.Equal(topOne(f, r), g) || !slices.Equal(r, plus(f, times(f, u, a), times(f, v, b))) {
				t.Errorf("field %d: %s of %s and %s is not the row %s; %s; %s, %d", f, sample.Brief(g), sample.Brief(a), sample.Brief(b), sample.Brief(r), sample.Brief(u), sample.Brief(v), e)
			}
		}
	}
}

func TestCommonFactorsDivideAGCD(t *testing.T) {
	for _, f := range sample.Fields() {
		factors := [][]uint64{l(5), l(7, 1), rooted(f, 2, 3), rooted(f, 3, 3, 3), noRoot(f), sample.Run(f, 70, 20)}
		for _, c := range factors {
			for _, a := range sample.Polys(f) {
				for _, b := range sample.Polys(f) {
					a, b := times(f, c, a), times(f, c, b)
					if g := gcd(t, f, a, b); !divides(f, c, g) {
						t.Errorf("GCD(%d, %s, %s) = %s, which %s does not divide", f, sample.Brief(a), sample.Brief(b), sample.Brief(g), sample.Brief(c))
					}
				}
			}
		}
	}
}

func TestARatioIsItsPolynomialByM(t *testing.T) {
	for _, f := range sample.Fields() {
		found := 0
		for _, p := range pairs(f) {
			g, m := p[0], p[1]
			if poly.Degree(m) < 0 || len(g) > 100 {
				continue
			}
			for _, stop := range stops(g, m) {
				n, d, ok, e := Ratio(f, g, m, stop)
				if e != api.OK {
					t.Fatalf("Ratio(%d, %s, %s, %d): %d", f, sample.Brief(g), sample.Brief(m), stop, e)
				}
				if !ok {
					continue
				}
				found++
				if !slices.Equal(rest(f, times(f, n, d), m), rest(f, times(f, g, d), m)) || d[len(d)-1] != 1 {
					t.Errorf("Ratio(%d, %s, %s, %d) = %s; %s", f, sample.Brief(g), sample.Brief(m), stop, sample.Brief(n), sample.Brief(d))
				}
			}
		}
		if found < 1000 {
			t.Errorf("field %d: only %d ratios", f, found)
		}
	}
}
