package euclid

import (
	"math"
	"slices"
	"testing"

	"conclave/api"
	"conclave/field"
	"conclave/poly"
	"conclave/sample"
)

func l(a ...uint64) []uint64 { return a }

func plus(f api.Field, p, q []uint64) []uint64 {
	x, _ := poly.Add(f, p, q)
	return x
}

func minus(f api.Field, p, q []uint64) []uint64 {
	x, _ := poly.Sub(f, p, q)
	return x
}

func times(f api.Field, p ...[]uint64) []uint64 {
	product := l(1)
	for _, q := range p {
		product, _ = poly.Mul(f, product, q)
	}
	return product
}

func rest(f api.Field, p, m []uint64) []uint64 {
	_, x, _ := poly.DivMod(f, p, m)
	return x
}

// topOne is p times the inverse of its highest coefficient.
func topOne(f api.Field, p []uint64) []uint64 {
	if poly.Degree(p) < 0 {
		return nil
	}
	inverse, _ := field.Inv(f, p[poly.Degree(p)])
	x, _ := poly.Scale(f, inverse, p)
	return x
}

// rooted is the polynomial that is 0 at each of xs, with the highest coefficient 1.
func rooted(f api.Field, xs ...uint64) []uint64 {
	product := l(1)
	for _, x := range xs {
		product = times(f, product, minus(f, l(0, 1), l(x)))
	}
	return product
}

// run has n numbers from one on.
func run(from, n int) []uint64 {
	xs := make([]uint64, n)
	for i := range xs {
		xs[i] = uint64(from + i)
	}
	return xs
}

// The reference: the rows by the words of the chapter, all of them, one list after the other.

func rowsBy(f api.Field, a, b []uint64) [][3][]uint64 {
	rows := [][3][]uint64{{poly.Trim(a), l(1), nil}}
	if len(rows[0][0]) == 0 {
		return rows
	}
	rows = append(rows, [3][]uint64{poly.Trim(b), nil, l(1)})
	for len(rows[len(rows)-1][0]) > 0 {
		one, two := rows[len(rows)-2], rows[len(rows)-1]
		quo, _, _ := poly.DivMod(f, one[0], two[0])
		var more [3][]uint64
		for i := range more {
			more[i] = minus(f, one[i], times(f, quo, two[i]))
		}
		rows = append(rows, more)
	}
	return rows
}

func partialBy(f api.Field, a, b []uint64, stop int) (r, u, v []uint64) {
	for _, row := range rowsBy(f, a, b) {
		if poly.Degree(row[0]) < stop || len(row[0]) == 0 {
			return row[0], row[1], row[2]
		}
	}
	return nil, nil, nil
}

func ratioBy(f api.Field, g, m []uint64, stop int) (n, d []uint64, ok bool) {
	r, _, v := partialBy(f, m, g, stop)
	if len(v) == 0 || len(rest(f, r, v)) > 0 {
		return nil, nil, false
	}
	n, _, _ = poly.DivMod(f, r, v)
	return n, topOne(f, v), true
}

func wantPartial(t *testing.T, f api.Field, a, b []uint64, stop int, r, u, v []uint64, e api.Errno) {
	t.Helper()
	x, y, z, got := Partial(f, a, b, stop)
	if !slices.Equal(x, r) || !slices.Equal(y, u) || !slices.Equal(z, v) || got != e {
		t.Errorf("Partial(%d, %s, %s, %d) = %s; %s; %s, %d, not %s; %s; %s, %d", f, sample.Brief(a), sample.Brief(b), stop, sample.Brief(x), sample.Brief(y), sample.Brief(z), got, sample.Brief(r), sample.Brief(u), sample.Brief(v), e)
	}
}

func wantGCD(t *testing.T, f api.Field, a, b, answer []uint64, e api.Errno) {
	t.Helper()
	for range 2 {
		if x, got := GCD(f, a, b); !slices.Equal(x, answer) || got != e {
			t.Errorf("GCD(%d, %s, %s) = %s, %d, not %s, %d", f, sample.Brief(a), sample.Brief(b), sample.Brief(x), got, sample.Brief(answer), e)
		}
		a, b = b, a
	}
}

func wantModulo(t *testing.T, f api.Field, a, m, inv []uint64, ok bool, e api.Errno) {
	t.Helper()
	if x, yes, got := Modulo(f, a, m); !slices.Equal(x, inv) || yes != ok || got != e {
		t.Errorf("Modulo(%d, %s, %s) = %s, %v, %d, not %s, %v, %d", f, sample.Brief(a), sample.Brief(m), sample.Brief(x), yes, got, sample.Brief(inv), ok, e)
	}
}

// wantInverse holds what Modulo tells against what an inverse is: there is one at most of a lower degree than m.
func wantInverse(t *testing.T, f api.Field, a, m []uint64, ok bool) {
	t.Helper()
	if !ok {
		wantModulo(t, f, a, m, nil, false, api.OK)
		return
	}
	x, yes, e := Modulo(f, a, m)
	if !yes || e != api.OK || !slices.Equal(x, poly.Trim(x)) || poly.Degree(x) >= poly.Degree(m) || !slices.Equal(rest(f, times(f, x, a), m), rest(f, l(1), m)) {
		t.Errorf("Modulo(%d, %s, %s) = %s, %v, %d, which is no inverse", f, sample.Brief(a), sample.Brief(m), sample.Brief(x), yes, e)
	}
}

func wantRatio(t *testing.T, f api.Field, g, m []uint64, stop int, n, d []uint64, ok bool, e api.Errno) {
	t.Helper()
	x, y, yes, got := Ratio(f, g, m, stop)
	if !slices.Equal(x, n) || !slices.Equal(y, d) || yes != ok || got != e {
		t.Errorf("Ratio(%d, %s, %s, %d) = %s; %s, %v, %d, not %s; %s, %v, %d", f, sample.Brief(g), sample.Brief(m), stop, sample.Brief(x), sample.Brief(y), yes, got, sample.Brief(n), sample.Brief(d), ok, e)
	}
}

// stops are 0, 1, those at and beside both degrees, one between them, some within, and ones above both.
func stops(a, b []uint64) []int {
	low, high := poly.Degree(a), poly.Degree(b)
	all := []int{0, 1, 2, low / 2, high / 3, low - 1, low, low + 1, (low + high) / 2, high - 1, high, high + 1, high + 2, 4096, math.MaxInt}
	all = slices.DeleteFunc(all, func(n int) bool { return n < 0 })
	slices.Sort(all)
	return slices.Compact(all)
}

// noughts are the polynomial 0, with none and with noughts alone.
func noughts() [][]uint64 {
	return [][]uint64{nil, {}, l(0), l(0, 0, 0), make([]uint64, 2048)}
}

// P5.1

func TestPartial(t *testing.T) {
	for _, f := range sample.Fields() {
		for _, a := range sample.Polys(f) {
			for _, b := range sample.Polys(f) {
				for _, stop := range stops(a, b) {
					r, u, v := partialBy(f, a, b, stop)
					wantPartial(t, f, a, b, stop, r, u, v, api.OK)
				}
			}
		}
	}
}

// Where they have common factors, the last rows but one have more than an element.
func TestPartialOfCommonFactors(t *testing.T) {
	for _, f := range sample.Fields() {
		for _, g := range [][]uint64{l(3), l(1, 1), rooted(f, 5, 5, 7), sample.Run(f, 2, 9)} {
			for _, p := range [][]uint64{l(2), l(0, 1), rooted(f, 1, 2, 3), sample.Run(f, 40, 12)} {
				a, b := times(f, g, p), times(f, g, rooted(f, 11, 12, 13, 14))
				for _, stop := range stops(a, b) {
					r, u, v := partialBy(f, a, b, stop)
					wantPartial(t, f, a, b, stop, r, u, v, api.OK)
					r, u, v = partialBy(f, b, a, stop)
					wantPartial(t, f, b, a, stop, r, u, v, api.OK)
				}
			}
		}
	}
}

func TestPartialByHand(t *testing.T) {
	for _, f := range sample.Fields() {
		top := sample.Prime(f) - 1
		square, line := l(0, 0, 1), l(1, 1)
		// The rows of x^2 and x + 1: those two, then 1, 1, 1 - x, then 0, -1 - x, x^2.
		for _, stop := range []int{3, 4, math.MaxInt} {
			wantPartial(t, f, square, line, stop, square, l(1), nil, api.OK)
		}
		wantPartial(t, f, square, line, 2, line, nil, l(1), api.OK)
		wantPartial(t, f, square, line, 1, l(1), l(1), l(1, top), api.OK)
		wantPartial(t, f, square, line, 0, nil, l(top, top), l(0, 0, 1), api.OK)
		// The other way round the first one comes once more, as the third, and the entries change places.
		for _, stop := range []int{2, 3, 4, math.MaxInt} {
			wantPartial(t, f, line, square, stop, line, l(1), nil, api.OK)
		}
		wantPartial(t, f, line, square, 1, l(1), l(1, top), l(1), api.OK)
		wantPartial(t, f, line, square, 0, nil, l(0, 0, 1), l(top, top), api.OK)
		// Two of one degree, of which one is a multiple of the other, and one is not.
		wantPartial(t, f, l(2, 2), l(1, 1), 2, l(2, 2), l(1), nil, api.OK)
		wantPartial(t, f, l(2, 2), l(1, 1), 1, nil, l(1), l(top-1), api.OK)
		wantPartial(t, f, l(5, 2), l(1, 1), 1, l(3), l(1), l(top-1), api.OK)
		// Elements.
		wantPartial(t, f, l(6), l(3), 1, l(6), l(1), nil, api.OK)
		wantPartial(t, f, l(6), l(3), 0, nil, l(1), l(top-1), api.OK)
	}
}

func TestPartialOfZero(t *testing.T) {
	for _, f := range sample.Fields() {
		for _, zero := range noughts() {
			for _, p := range append(sample.Polys(f), noughts()...) {
				for _, stop := range stops(p, zero) {
					wantPartial(t, f, zero, p, stop, nil, l(1), nil, api.OK)
					if poly.Degree(p) < stop {
						wantPartial(t, f, p, zero, stop, poly.Trim(p), l(1), nil, api.OK)
					} else {
						wantPartial(t, f, p, zero, stop, nil, nil, l(1), api.OK)
					}
				}
			}
		}
	}
}

// chain are the polynomials 0, 1, x, x^2 + 1 and so on, each one x times the one ahead and the one two ahead: of two that stand side by side, all quotients are x.
func chain(f api.Field, n int) [][]uint64 {
	c := [][]uint64{nil, l(1)}
	for i := 2; i <= n; i++ {
		c = append(c, plus(f, append(l(0), c[i-1]...), c[i-2]))
	}
	return c
}

// signed is p, or its opposite if n is odd.
func signed(f api.Field, n int, p []uint64) []uint64 {
	if n%2 == 1 {
		return minus(f, nil, p)
	}
	return p
}

// The longest lists, and as many rows as there can be.
func TestPartialOfAChain(t *testing.T) {
	for _, f := range sample.Fields() {
		c := chain(f, 2048)
		for _, n := range []int{2, 3, 10, 2048} {
			for _, k := range []int{2, 3, 4, 10, 11, 1024, 1025, 2047, 2048} {
				if k > n {
					continue
				}
				// The row k, counted from 0 on: its degree is n - k - 1, the one ahead has one more.
				r, u, v := c[n-k], signed(f, k, c[k-1]), signed(f, k+1, c[k])
				wantPartial(t, f, c[n], c[n-1], n-k, r, u, v, api.OK)
				wantPartial(t, f, c[n-1], c[n], n-k, r, v, u, api.OK)
			}
			wantPartial(t, f, c[n], c[n-1], n-1, c[n-1], nil, l(1), api.OK)
			wantPartial(t, f, c[n], c[n-1], n, c[n], l(1), nil, api.OK)
		}
	}
}

func TestPartialOfPaddedLists(t *testing.T) {
	for _, f := range sample.Fields() {
		a, b := sample.Run(f, 3, 20), sample.Run(f, 50, 12)
		for _, n := range []int{21, 100, 2047, 2048} {
			for _, stop := range stops(a, b) {
				r, u, v := partialBy(f, a, b, stop)
				wantPartial(t, f, sample.Padded(a, n), b, stop, r, u, v, api.OK)
				wantPartial(t, f, a, sample.Padded(b, n), stop, r, u, v, api.OK)
				wantPartial(t, f, sample.Padded(a, n), sample.Padded(b, n), stop, r, u, v, api.OK)
			}
		}
	}
}

// P5.2, GCD

func TestGCDOfZero(t *testing.T) {
	for _, f := range sample.Fields() {
		for _, zero := range noughts() {
			for _, p := range append(sample.Polys(f), sample.Run(f, 2, 2048), sample.Power(2047)) {
				wantGCD(t, f, zero, p, topOne(f, p), api.OK)
			}
			for _, other := range noughts() {
				wantGCD(t, f, zero, other, nil, api.OK)
			}
		}
	}
}

func TestGCDOfNoCommonFactor(t *testing.T) {
	for _, f := range sample.Fields() {
		for _, c := range sample.NotZero(sample.Edges(f)) {
			for _, p := range sample.Polys(f) {
				wantGCD(t, f, l(c), p, l(1), api.OK)
			}
			wantGCD(t, f, l(0, c), l(c, 1), l(1), api.OK)
		}
		for n := range 9 {
			for m := range 9 {
				wantGCD(t, f, rooted(f, run(1, n)...), rooted(f, run(100, m)...), l(1), api.OK)
			}
		}
		// A common factor that has no root, and two that have none and share nothing.
		wantGCD(t, f, times(f, noRoot(f), l(3, 1)), times(f, noRoot(f), l(4, 1)), noRoot(f), api.OK)
		wantGCD(t, f, noRoot(f), plus(f, noRoot(f), l(1)), l(1), api.OK)
	}
}

// noRoot is the square less an element that is no square (of which all others are powers), so there is nothing of a lower degree that divides it but elements.
func noRoot(f api.Field) []uint64 {
	if f == api.Small {
		return minus(f, l(0, 0, 1), l(31))
	}
	return minus(f, l(0, 0, 1), l(7))
}

func TestGCDOfACommonFactor(t *testing.T) {
	for _, f := range sample.Fields() {
		p, q := times(f, l(5), rooted(f, 1, 2, 3)), times(f, l(sample.Prime(f)-4), rooted(f, 11, 12, 13, 14, 15))
		for _, g := range append(sample.Polys(f), rooted(f, 1), rooted(f, 11, 1), rooted(f, 1, 1, 1), sample.Run(f, 9, 2000)) {
			wantGCD(t, f, times(f, g, p), times(f, g, q), topOne(f, g), api.OK)
			wantGCD(t, f, times(f, g, p), g, topOne(f, g), api.OK)
			wantGCD(t, f, g, g, topOne(f, g), api.OK)
			wantGCD(t, f, sample.Padded(times(f, g, p), 2048), sample.Padded(times(f, g, q), 2048), topOne(f, g), api.OK)
		}
		// A factor that stands several times, in the one more often than in the other.
		wantGCD(t, f, rooted(f, 4, 4, 4, 5), rooted(f, 4, 4, 6, 6), rooted(f, 4, 4), api.OK)
		wantGCD(t, f, rooted(f, 4, 4, 4, 5, 9), rooted(f, 5, 4, 9, 9, 5), rooted(f, 4, 5, 9), api.OK)
	}
}

func TestGCDOfLongLists(t *testing.T) {
	for _, f := range sample.Fields() {
		c := chain(f, 2048)
		wantGCD(t, f, c[2048], c[2047], l(1), api.OK)
		wantGCD(t, f, sample.Power(2047), sample.Power(2000), sample.Power(2000), api.OK)
		// Of a chain, those at two places have the one at their places' greatest common divisor in common.
		wantGCD(t, f, c[2040], c[1700], c[340], api.OK)
	}
}

// P5.2, Modulo

func TestModuloByFactors(t *testing.T) {
	for _, f := range sample.Fields() {
		for _, xs := range [][]uint64{l(0), l(1), l(5, 6), l(0, 0), l(3, 3, 4), run(0, 9), run(7, 20)} {
			m := rooted(f, xs...)
			for _, a := range append(sample.Polys(f), rooted(f, 3), rooted(f, 4, 100), rooted(f, 100, 101, 102), times(f, m, l(2, 3)), plus(f, times(f, m, l(2, 3)), l(1))) {
				// There is an inverse, just if no factor is in both.
				ok := !slices.ContainsFunc(xs, func(x uint64) bool {
					y, _ := poly.Eval(f, a, x)
					return y == 0
				})
				wantInverse(t, f, a, m, ok)
				wantInverse(t, f, a, times(f, m, l(7)), ok)
				wantInverse(t, f, sample.Padded(a, 2048), sample.Padded(m, 2048), ok)
			}
		}
	}
}

func TestModuloByNoRoot(t *testing.T) {
	for _, f := range sample.Fields() {
		m := noRoot(f)
		for _, a := range append(sample.Polys(f), rooted(f, 3), m, times(f, m, l(1, 2)), plus(f, m, l(1))) {
			wantInverse(t, f, a, m, poly.Degree(rest(f, a, m)) >= 0)
		}
	}
}

func TestModuloOfZeroAndMultiples(t *testing.T) {
	for _, f := range sample.Fields() {
		for _, m := range [][]uint64{l(0, 1), l(7, 1), l(0, 0, 3), sample.Run(f, 4, 9), sample.Run(f, 4, 2048)} {
			for _, zero := range noughts() {
				wantModulo(t, f, zero, m, nil, false, api.OK)
			}
			wantModulo(t, f, m, m, nil, false, api.OK)
			wantModulo(t, f, times(f, m, l(5)), m, nil, false, api.OK)
			for _, c := range sample.NotZero(sample.Edges(f)) {
				inverse, _ := field.Inv(f, c)
				wantModulo(t, f, l(c), m, l(inverse), true, api.OK)
			}
		}
		for _, m := range [][]uint64{l(0, 1), l(0, 0, 3), sample.Run(f, 4, 9)} {
			for _, q := range [][]uint64{l(0, 1), l(1, 2, 3), sample.Power(100)} {
				wantModulo(t, f, times(f, m, q), m, nil, false, api.OK)
				wantModulo(t, f, plus(f, times(f, m, q), l(1)), m, l(1), true, api.OK)
			}
		}
	}
}

func TestModuloByAnElement(t *testing.T) {
	for _, f := range sample.Fields() {
		for _, c := range sample.NotZero(sample.Edges(f)) {
			for _, a := range append(sample.Polys(f), l(c)) {
				wantModulo(t, f, a, l(c), nil, true, api.OK)
				wantModulo(t, f, a, l(c, 0, 0), nil, true, api.OK)
			}
		}
	}
}

func TestModuloOfLongLists(t *testing.T) {
	for _, f := range sample.Fields() {
		c := chain(f, 2048)
		wantInverse(t, f, c[2047], c[2048], true)
		wantInverse(t, f, c[2048], c[2047], true)
		wantInverse(t, f, c[1700], c[2040], false)
		wantInverse(t, f, c[2048], l(1, 1), true)
		wantInverse(t, f, sample.Power(2047), sample.Power(2046), false)
		wantInverse(t, f, l(0, 1), append(l(3), sample.Run(f, 6, 2047)...), true)
	}
}

// P5.3

func TestRatio(t *testing.T) {
	for _, f := range sample.Fields() {
		for _, g := range sample.Polys(f) {
			for _, m := range sample.Polys(f) {
				if poly.Degree(m) < 0 {
					continue
				}
				for _, stop := range stops(g, m) {
					n, d, ok := ratioBy(f, g, m, stop)
					wantRatio(t, f, g, m, stop, n, d, ok, api.OK)
				}
			}
		}
	}
}

func TestRatioByHand(t *testing.T) {
	for _, f := range sample.Fields() {
		top := sample.Prime(f) - 1
		// x^3 by x^2 + 1 has the rows of these two, and -x, 1, -x: it is 1 times that v, which is d once its sign is turned.
		wantRatio(t, f, l(1, 0, 1), l(0, 0, 0, 1), 2, l(1), l(0, 1), true, api.OK)
		// The next one is 1, x, 1 - x^2: it does not divide 1.
		wantRatio(t, f, l(1, 0, 1), l(0, 0, 0, 1), 1, nil, nil, false, api.OK)
		// The last one has 0, which everything divides; its v is a multiple of m.
		wantRatio(t, f, l(1, 0, 1), l(0, 0, 0, 1), 0, nil, l(0, 0, 0, 1), true, api.OK)
		// The second row: v is 1.
		wantRatio(t, f, l(1, 0, 1), l(0, 0, 0, 1), 3, l(1, 0, 1), l(1), true, api.OK)
		// The first one: v is 0.
		wantRatio(t, f, l(1, 0, 1), l(0, 0, 0, 1), 4, nil, nil, false, api.OK)
		wantRatio(t, f, l(1, 0, 1), l(0, 0, 0, 1), math.MaxInt, nil, nil, false, api.OK)
		// Where m has the lower degree, v is 0 in the first row, and in the third one too.
		wantRatio(t, f, l(0, 0, 0, 1), l(top, 1), 1, l(1), l(1), true, api.OK)
		wantRatio(t, f, l(0, 0, 0, 1), l(top, 1), 2, nil, nil, false, api.OK)
		// An element m, at both stops that there are.
		wantRatio(t, f, l(6), l(3), 1, nil, nil, false, api.OK)
		wantRatio(t, f, l(6), l(3), 0, nil, l(1), true, api.OK)
	}
}

func TestRatioOfZero(t *testing.T) {
	for _, f := range sample.Fields() {
		for _, zero := range noughts() {
			for _, m := range sample.Polys(f) {
				if poly.Degree(m) < 0 {
					continue
				}
				for _, stop := range stops(m, zero) {
					if stop > poly.Degree(m) {
						wantRatio(t, f, zero, m, stop, nil, nil, false, api.OK)
					} else {
						wantRatio(t, f, zero, m, stop, nil, l(1), true, api.OK)
					}
				}
			}
		}
	}
}

// A polynomial of which some values are wrong is regained from the one that has them all, and d is 0 at the wrong ones' places.
func TestRatioRegainsAPolynomial(t *testing.T) {
	for _, f := range sample.Fields() {
		for _, places := range []int{1, 2, 3, 4, 7, 12, 30} {
			for count := range places + 1 {
				n := sample.Run(f, places, count)
				for wrong := range (places-count)/2 + 1 {
					d := rooted(f, run(1, wrong)...)
					others := rooted(f, run(1+wrong, places-wrong)...)
					g := n
					if wrong > 0 {
						g = plus(f, n, times(f, l(77), others))
					}
					wantRatio(t, f, g, times(f, d, others), (places+count+1)/2, n, d, true, api.OK)
				}
			}
		}
	}
}

func TestRatioOfPaddedLists(t *testing.T) {
	for _, f := range sample.Fields() {
		g, m := sample.Run(f, 3, 20), sample.Run(f, 50, 12)
		for _, stop := range stops(g, m) {
			n, d, ok := ratioBy(f, g, m, stop)
			wantRatio(t, f, sample.Padded(g, 2048), m, stop, n, d, ok, api.OK)
			wantRatio(t, f, g, sample.Padded(m, 2048), stop, n, d, ok, api.OK)
			n, d, ok = ratioBy(f, m, g, stop)
			wantRatio(t, f, sample.Padded(m, 2048), sample.Padded(g, 2048), stop, n, d, ok, api.OK)
		}
	}
}

func TestRatioOfLongLists(t *testing.T) {
	for _, f := range sample.Fields() {
		c := chain(f, 2048)
		wantRatio(t, f, c[2047], c[2048], 0, nil, c[2048], true, api.OK)
		wantRatio(t, f, c[2047], c[2048], 2047, c[2047], l(1), true, api.OK)
		wantRatio(t, f, c[2047], c[2048], 2048, nil, nil, false, api.OK)
		wantRatio(t, f, c[2047], c[2048], 1, nil, nil, false, api.OK)
	}
}

// The chapter's examples

func TestExamples(t *testing.T) {
	const top = 2013265920
	wantPartial(t, api.Small, l(top, 0, 1), l(1, 1), 1, nil, l(1), l(1, top), api.OK)
	wantPartial(t, api.Small, l(1, 1), l(5), 1, l(5), nil, l(1), api.OK)
	wantPartial(t, api.Small, nil, l(5), 3, nil, l(1), nil, api.OK)
	wantGCD(t, api.Small, l(top, 0, 1), l(2, 2), l(1, 1), api.OK)
	wantGCD(t, api.Large, nil, nil, nil, api.OK)
	wantGCD(t, api.Small, l(3), l(5), l(1), api.OK)
	wantModulo(t, api.Small, l(2), l(0, 1), l(1006632961), true, api.OK)
	wantModulo(t, api.Small, l(0, 1), l(0, 0, 1), nil, false, api.OK)
	wantModulo(t, api.Small, l(7), l(5), nil, true, api.OK)
	wantModulo(t, api.Small, l(1), nil, nil, false, api.ErrZero)
}
