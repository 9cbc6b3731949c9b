package interp

import (
	"math"
	"slices"
	"testing"

	"conclave/api"
	"conclave/field"
	"conclave/poly"
	"conclave/sample"
)

func l(a ...uint64) []uint64 { return a }

// The reference: by the words of the chapter, from the fields on.

func minus(f api.Field, a, b uint64) uint64 {
	x, _ := field.Sub(f, a, b)
	return x
}

// without is the product of x's differences to all of xs but the one at the place i.
func without(f api.Field, xs []uint64, i int, x uint64) uint64 {
	product := uint64(1)
	for j, other := range xs {
		if j != i {
			product, _ = field.Mul(f, product, minus(f, x, other))
		}
	}
	return product
}

func weightsBy(f api.Field, xs []uint64) []uint64 {
	weights := make([]uint64, len(xs))
	for i, x := range xs {
		weights[i], _ = field.Inv(f, without(f, xs, i, x))
	}
	return weights
}

// basisBy has for each place the product that is 0 at all others, by what it is at the place itself.
func basisBy(f api.Field, xs []uint64, x uint64) []uint64 {
	row := make([]uint64, len(xs))
	for i, place := range xs {
		row[i], _ = field.Div(f, without(f, xs, i, x), without(f, xs, i, place))
	}
	return row
}

func changeBy(f api.Field, xs, zs []uint64) [][]uint64 {
	var rows [][]uint64
	for _, z := range zs {
		rows = append(rows, basisBy(f, xs, z))
	}
	return rows
}

// throughBy goes from place to place: so much of the product that is 0 at all places ahead is added that the value at this one comes out.
func throughBy(f api.Field, xs, ys []uint64) []uint64 {
	var p []uint64
	zero := l(1)
	for i, x := range xs {
		here, _ := poly.Eval(f, p, x)
		rise, _ := poly.Eval(f, zero, x)
		c, _ := field.Div(f, minus(f, ys[i], here), rise)
		more, _ := poly.Scale(f, c, zero)
		p, _ = poly.Add(f, p, more)
		zero, _ = poly.Mul(f, zero, l(minus(f, 0, x), 1))
	}
	return p
}

func valuesBy(f api.Field, p, xs []uint64) []uint64 {
	ys := make([]uint64, len(xs))
	for i, x := range xs {
		ys[i], _ = poly.Eval(f, p, x)
	}
	return ys
}

func same(a, b [][]uint64) bool { return slices.EqualFunc(a, b, slices.Equal[[]uint64]) }

func wantThrough(t *testing.T, f api.Field, xs, ys, answer []uint64, e api.Errno) {
	t.Helper()
	if p, got := Through(f, xs, ys); !slices.Equal(p, answer) || got != e {
		t.Errorf("Through(%d, %s, %s) = %s, %d, not %s, %d", f, sample.Brief(xs), sample.Brief(ys), sample.Brief(p), got, sample.Brief(answer), e)
	}
}

func wantWeights(t *testing.T, f api.Field, xs, answer []uint64, e api.Errno) {
	t.Helper()
	if w, got := Weights(f, xs); !slices.Equal(w, answer) || got != e {
		t.Errorf("Weights(%d, %s) = %s, %d, not %s, %d", f, sample.Brief(xs), sample.Brief(w), got, sample.Brief(answer), e)
	}
}

func wantBasis(t *testing.T, f api.Field, xs []uint64, x uint64, answer []uint64, e api.Errno) {
	t.Helper()
	if b, got := Basis(f, xs, x); !slices.Equal(b, answer) || got != e {
		t.Errorf("Basis(%d, %s, %d) = %s, %d, not %s, %d", f, sample.Brief(xs), x, sample.Brief(b), got, sample.Brief(answer), e)
	}
}

func wantValue(t *testing.T, f api.Field, xs, ys []uint64, x, answer uint64, e api.Errno) {
	t.Helper()
	if y, got := Value(f, xs, ys, x); y != answer || got != e {
		t.Errorf("Value(%d, %s, %s, %d) = %d, %d, not %d, %d", f, sample.Brief(xs), sample.Brief(ys), x, y, got, answer, e)
	}
}

func wantChange(t *testing.T, f api.Field, xs, zs []uint64, answer [][]uint64, e api.Errno) {
	t.Helper()
	if rows, got := Change(f, xs, zs); !same(rows, answer) || got != e {
		t.Errorf("Change(%d, %s, %s) has %d rows, %d, of which one is wrong, or it should have %d, %d", f, sample.Brief(xs), sample.Brief(zs), len(rows), got, len(answer), e)
	}
}

func wantFits(t *testing.T, f api.Field, xs, ys []uint64, degree int, answer bool, e api.Errno) {
	t.Helper()
	if ok, got := Fits(f, xs, ys, degree); ok != answer || got != e {
		t.Errorf("Fits(%d, %s, %s, %d) = %v, %d, not %v, %d", f, sample.Brief(xs), sample.Brief(ys), degree, ok, got, answer, e)
	}
}

// places are lists of unlike elements: none, one, two, three, many; with 0 at each end, within and not at all; in and out of order; one and its opposite.
func places(f api.Field) [][]uint64 {
	top := sample.Prime(f) - 1
	lists := [][]uint64{
		nil, {}, l(0), l(1), l(5), l(top),
		l(0, 1), l(1, 0), l(1, top), l(top, 0), l(0, top), l(3, 8),
		l(0, 1, 2), l(2, 1, 0), l(7, 0, 3), l(top, 4, top/2), l(1, 2, 4, top),
		l(0, 1, 2, 3, 4, 5, 6, 7), l(top, top-1, top-2, top-3, top-4),
	}
	for _, n := range []int{3, 9, 16, 17, 40} {
		lists = append(lists, sample.Unlike(f, 0, n), sample.Unlike(f, 2*n, n), sample.Unlike(f, 100, n))
	}
	return lists
}

// values are n of them, of many kinds: 0 and the same everywhere, 1 at one place alone, 0 at one place alone, of no order, and such as lie on polynomials of lower degrees.
func values(f api.Field, xs []uint64) [][]uint64 {
	n, top := len(xs), sample.Prime(f)-1
	lists := [][]uint64{make([]uint64, n), slices.Repeat(l(1), n), slices.Repeat(l(top), n), sample.Run(f, 5, n), slices.Clone(xs)}
	for _, at := range []int{0, 1, n / 2, n - 1} {
		if at >= 0 && at < n {
			one, zero := make([]uint64, n), sample.Run(f, 9, n)
			one[at], zero[at] = 1, 0
			lists = append(lists, one, zero)
		}
	}
	for _, degree := range []int{1, 2, n / 2, n - 2, n - 1} {
		lists = append(lists, valuesBy(f, sample.Run(f, 2, max(degree+1, 0)), xs))
	}
	return lists
}

// asked are the elements at which something is asked of xs: some of the places, and others.
func asked(f api.Field, xs []uint64) []uint64 {
	return append(sample.Unlike(f, 0, 50), xs...)
}

// P7.1

func TestThrough(t *testing.T) {
	for _, f := range sample.Fields() {
		for _, xs := range places(f) {
			for _, ys := range values(f, xs) {
				wantThrough(t, f, xs, ys, throughBy(f, xs, ys), api.OK)
			}
		}
	}
}

// By the word alone: it has each value at its place, and a degree below their number, and it is trimmed.
func TestThroughIsWhatTheWordSays(t *testing.T) {
	for _, f := range sample.Fields() {
		for _, n := range []int{0, 1, 2, 3, 30, 255, 511, 512} {
			xs := sample.Unlike(f, 0, n)
			for _, ys := range [][]uint64{sample.Run(f, 4, n), make([]uint64, n), slices.Repeat(l(6), n)} {
				p, e := Through(f, xs, ys)
				if e != api.OK || len(p) > n || len(p) != poly.Degree(p)+1 || !slices.Equal(valuesBy(f, p, xs), ys) {
					t.Errorf("field %d, %d places, the values %s: %s, %d", f, n, sample.Brief(ys), sample.Brief(p), e)
				}
			}
		}
	}
}

func TestThroughByHand(t *testing.T) {
	for _, f := range sample.Fields() {
		top := sample.Prime(f) - 1
		for _, x := range sample.Elements(f) {
			for _, y := range sample.NotZero(sample.Edges(f)) {
				wantThrough(t, f, l(x), l(y), l(y), api.OK)
			}
			wantThrough(t, f, l(x), l(0), nil, api.OK)
		}
		for _, n := range []int{2, 3, 40, 512} {
			xs := sample.Unlike(f, 1, n)
			wantThrough(t, f, xs, make([]uint64, n), nil, api.OK)
			wantThrough(t, f, xs, slices.Repeat(l(9), n), l(9), api.OK)
			wantThrough(t, f, xs, xs, l(0, 1), api.OK)
		}
		wantThrough(t, f, l(0, 1, 2), l(0, 1, 4), l(0, 0, 1), api.OK)
		wantThrough(t, f, l(2, 0, 1), l(4, 0, 1), l(0, 0, 1), api.OK)
		wantThrough(t, f, l(1, top), l(3, 1), l(2, 1), api.OK)
		wantThrough(t, f, l(top, 0, 1), l(1, 0, 1), l(0, 0, 1), api.OK)
	}
}

func TestValue(t *testing.T) {
	for _, f := range sample.Fields() {
		for _, xs := range places(f) {
			for _, ys := range values(f, xs) {
				p := throughBy(f, xs, ys)
				for _, x := range asked(f, xs) {
					y, _ := poly.Eval(f, p, x)
					wantValue(t, f, xs, ys, x, y, api.OK)
				}
			}
		}
	}
}

func TestValueAtAPlace(t *testing.T) {
	for _, f := range sample.Fields() {
		for _, xs := range append(places(f), sample.Unlike(f, 0, 512)) {
			ys := sample.Run(f, 8, len(xs))
			for i := 0; i < len(xs); i += 1 + len(xs)/20 {
				wantValue(t, f, xs, ys, xs[i], ys[i], api.OK)
			}
		}
	}
}

func TestValueOfMany(t *testing.T) {
	for _, f := range sample.Fields() {
		for _, n := range []int{511, 512} {
			p, xs := sample.Run(f, 3, n), sample.Unlike(f, 0, n)
			ys := valuesBy(f, p, xs)
			for _, x := range []uint64{0, xs[n-1], 123456789, sample.Prime(f) - 9} {
				y, _ := poly.Eval(f, p, x)
				wantValue(t, f, xs, ys, x, y, api.OK)
			}
		}
	}
}

// P7.2

func TestWeights(t *testing.T) {
	for _, f := range sample.Fields() {
		for _, xs := range append(places(f), sample.Unlike(f, 0, 511), sample.Unlike(f, 60, 512)) {
			wantWeights(t, f, xs, weightsBy(f, xs), api.OK)
		}
	}
}

func TestWeightsByHand(t *testing.T) {
	for _, f := range sample.Fields() {
		p := sample.Prime(f)
		for _, x := range sample.Elements(f) {
			wantWeights(t, f, l(x), l(1), api.OK)
		}
		wantWeights(t, f, nil, nil, api.OK)
		wantWeights(t, f, l(1, 0), l(1, p-1), api.OK)
		// Of 0, 1 and 2 the products are 2, -1 and 2.
		half := p/2 + 1
		wantWeights(t, f, l(0, 1, 2), l(half, p-1, half), api.OK)
		wantWeights(t, f, l(1, 2, 0), l(p-1, half, half), api.OK)
	}
}

func TestBasis(t *testing.T) {
	for _, f := range sample.Fields() {
		for _, xs := range places(f) {
			for _, x := range asked(f, xs) {
				wantBasis(t, f, xs, x, basisBy(f, xs, x), api.OK)
			}
		}
		for _, n := range []int{511, 512} {
			xs := sample.Unlike(f, 0, n)
			for _, x := range []uint64{0, xs[n/2], xs[n-1], 987654321} {
				wantBasis(t, f, xs, x, basisBy(f, xs, x), api.OK)
			}
		}
	}
}

func TestChange(t *testing.T) {
	for _, f := range sample.Fields() {
		for _, xs := range places(f) {
			back := slices.Clone(xs)
			slices.Reverse(back)
			// Elements in any order, more than once, the places themselves and others.
			for _, zs := range [][]uint64{nil, {}, l(0), l(sample.Prime(f) - 1), l(4, 4, 4), l(3, 2, 1, 0, 3), xs, back, slices.Concat(xs, back), sample.Unlike(f, 30, 20), slices.Concat(l(77), xs, l(77, 0))} {
				wantChange(t, f, xs, zs, changeBy(f, xs, zs), api.OK)
			}
		}
	}
}

func TestChangeOfMany(t *testing.T) {
	for _, f := range sample.Fields() {
		many, more := sample.Unlike(f, 0, 512), sample.Unlike(f, 600, 511)
		wantChange(t, f, many, l(many[0], 31337, many[511]), changeBy(f, many, l(many[0], 31337, many[511])), api.OK)
		wantChange(t, f, l(1, 5, 0), many, changeBy(f, l(1, 5, 0), many), api.OK)
		wantChange(t, f, l(1, 5, 0), more, changeBy(f, l(1, 5, 0), more), api.OK)
		wantChange(t, f, l(1, 5, 0), slices.Repeat(l(6), 512), slices.Repeat([][]uint64{basisBy(f, l(1, 5, 0), 6)}, 512), api.OK)
		wantChange(t, f, nil, many, make([][]uint64, 512), api.OK)
		wantChange(t, f, many, nil, nil, api.OK)
		units := make([][]uint64, 512)
		for i := range units {
			units[i] = make([]uint64, 512)
			units[i][i] = 1
		}
		wantChange(t, f, many, many, units, api.OK)
	}
}

// The rows are just what Basis tells.
func TestChangeIsBasis(t *testing.T) {
	for _, f := range sample.Fields() {
		for _, xs := range places(f) {
			zs := asked(f, xs)
			rows, e := Change(f, xs, zs)
			if e != api.OK || len(rows) != len(zs) {
				t.Fatalf("Change(%d, %s, %s) has %d rows, %d", f, sample.Brief(xs), sample.Brief(zs), len(rows), e)
			}
			for i, z := range zs {
				wantBasis(t, f, xs, z, rows[i], api.OK)
			}
		}
	}
}

// P7.3

// wantDegree has Fits tell that the polynomial through them has this degree: at it, around it, and far off.
func wantDegree(t *testing.T, f api.Field, xs, ys []uint64, degree int) {
	t.Helper()
	for _, asked := range []int{-1, 0, 1, degree - 1, degree, degree + 1, len(xs) - 1, len(xs), 511, 512, 4096, math.MaxInt32, math.MaxInt} {
		if asked >= -1 {
			wantFits(t, f, xs, ys, asked, degree <= asked, api.OK)
		}
	}
}

func TestFits(t *testing.T) {
	for _, f := range sample.Fields() {
		for _, xs := range places(f) {
			for _, ys := range values(f, xs) {
				wantDegree(t, f, xs, ys, poly.Degree(throughBy(f, xs, ys)))
			}
			for degree := -1; degree < len(xs); degree++ {
				wantDegree(t, f, xs, valuesBy(f, sample.Run(f, 7, degree+1), xs), degree)
			}
		}
	}
}

func TestFitsOfMany(t *testing.T) {
	for _, f := range sample.Fields() {
		for _, n := range []int{511, 512} {
			xs := sample.Unlike(f, 0, n)
			for _, degree := range []int{-1, 0, 1, 200, n - 2, n - 1} {
				ys := valuesBy(f, sample.Run(f, 7, degree+1), xs)
				for _, asked := range []int{degree - 1, degree, degree + 1, math.MaxInt} {
					if asked >= -1 {
						wantFits(t, f, xs, ys, asked, degree <= asked, api.OK)
					}
				}
			}
		}
	}
}

func TestFitsByHand(t *testing.T) {
	for _, f := range sample.Fields() {
		wantDegree(t, f, nil, nil, -1)
		wantDegree(t, f, l(3), l(0), -1)
		wantDegree(t, f, l(3), l(1), 0)
		wantDegree(t, f, l(0), l(0), -1)
		wantDegree(t, f, l(0, 4), l(0, 0), -1)
		wantDegree(t, f, l(0, 4), l(2, 2), 0)
		wantDegree(t, f, l(0, 4), l(0, 2), 1)
		// One value that is off takes the degree to the greatest there is.
		wantDegree(t, f, l(0, 1, 2, 3, 4), l(0, 1, 2, 3, 4), 1)
		wantDegree(t, f, l(0, 1, 2, 3, 4), l(0, 1, 2, 3, 5), 4)
	}
}

// The examples of the chapter.

func TestExamples(t *testing.T) {
	const p = 2013265921
	wantThrough(t, api.Small, l(0, 1), l(5, 7), l(5, 2), api.OK)
	wantThrough(t, api.Small, l(1, 1), l(2, 3), nil, api.ErrTwice)
	wantThrough(t, api.Large, nil, nil, nil, api.OK)
	wantThrough(t, api.Small, l(1), nil, nil, api.ErrShape)
	wantWeights(t, api.Small, l(0, 1), l(p-1, 1), api.OK)
	wantWeights(t, api.Small, l(5), l(1), api.OK)
	wantBasis(t, api.Small, l(0, 1), 2, l(p-1, 2), api.OK)
	wantValue(t, api.Small, l(0, 1), l(5, 7), 2, 9, api.OK)
	wantValue(t, api.Small, nil, nil, 9, 0, api.OK)
	wantChange(t, api.Small, l(0, 1), l(1, 2), [][]uint64{l(0, 1), l(p-1, 2)}, api.OK)
	wantFits(t, api.Small, l(0, 1, 2), l(0, 1, 4), 1, false, api.OK)
	wantFits(t, api.Small, l(0, 1, 2), l(0, 1, 4), 2, true, api.OK)
	wantFits(t, api.Small, nil, nil, -1, true, api.OK)
}
