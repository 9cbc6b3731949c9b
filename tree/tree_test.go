package tree

import (
	"slices"
	"testing"

	"conclave/api"
	"conclave/field"
	"conclave/poly"
	"conclave/sample"
)

func l(a ...uint64) []uint64 { return a }

func times(f api.Field, p, q []uint64) []uint64 {
	x, _ := poly.Mul(f, p, q)
	return x
}

func plus(f api.Field, p, q []uint64) []uint64 {
	x, _ := poly.Add(f, p, q)
	return x
}

// The reference: by the words of the chapter, from the fields on.

func factorBy(f api.Field, x uint64) []uint64 {
	opposite, _ := field.Sub(f, 0, x)
	return l(opposite, 1)
}

func zeroBy(f api.Field, xs []uint64) []uint64 {
	product := l(1)
	for _, x := range xs {
		opposite := factorBy(f, x)[0]
		next := append(l(0), product...)
		for i, a := range product {
			more, _ := field.Mul(f, a, opposite)
			next[i], _ = field.Add(f, next[i], more)
		}
		product = next
	}
	return product
}

// treeBy has at each place of a level the product of the factors that stand beneath it: two of the first level for each of the second, four for each of the third.
func treeBy(f api.Field, xs []uint64) [][][]uint64 {
	var levels [][][]uint64
	for wide := 1; len(xs) > 0; wide *= 2 {
		var level [][]uint64
		for at := 0; at < len(xs); at += wide {
			level = append(level, zeroBy(f, xs[at:min(at+wide, len(xs))]))
		}
		levels = append(levels, level)
		if wide >= len(xs) {
			break
		}
	}
	return levels
}

func valuesBy(f api.Field, p, xs []uint64) []uint64 {
	values := make([]uint64, len(xs))
	for i, x := range xs {
		for _, a := range slices.Backward(p) {
			values[i], _ = field.Mul(f, values[i], x)
			values[i], _ = field.Add(f, values[i], a)
		}
	}
	return values
}

// remainderBy takes multiples of q, which is not 0, from p, till its degree is below q's.
func remainderBy(f api.Field, p, q []uint64) []uint64 {
	rem, top := slices.Clone(p), poly.Degree(q)
	for at := poly.Degree(p); at >= top; at-- {
		c, _ := field.Div(f, rem[at], q[top])
		for i, a := range q[:top+1] {
			less, _ := field.Mul(f, c, a)
			rem[at-top+i], _ = field.Sub(f, rem[at-top+i], less)
		}
	}
	return poly.Trim(rem)
}

func remaindersBy(f api.Field, p []uint64, m [][]uint64) [][]uint64 {
	var rems [][]uint64
	for _, q := range m {
		rems = append(rems, remainderBy(f, p, q))
	}
	return rems
}

// slopeBy adds each coefficient up so often as the word says.
func slopeBy(f api.Field, p []uint64) []uint64 {
	var slope []uint64
	for i := 1; i < len(p); i++ {
		sum := uint64(0)
		for range i {
			sum, _ = field.Add(f, sum, p[i])
		}
		slope = append(slope, sum)
	}
	return poly.Trim(slope)
}

func same(a, b [][]uint64) bool { return slices.EqualFunc(a, b, slices.Equal[[]uint64]) }

func briefs(lists [][]uint64) string {
	text := ""
	for i, x := range lists {
		if i == 5 {
			return text + ".."
		}
		text += sample.Brief(x)
	}
	return text
}

func wantZero(t *testing.T, f api.Field, xs, answer []uint64, e api.Errno) {
	t.Helper()
	if x, got := Zero(f, xs); !slices.Equal(x, answer) || got != e {
		t.Errorf("Zero(%d, %s) = %s, %d, not %s, %d", f, sample.Brief(xs), sample.Brief(x), got, sample.Brief(answer), e)
	}
}

func wantTree(t *testing.T, f api.Field, xs []uint64, answer [][][]uint64, e api.Errno) {
	t.Helper()
	x, got := Tree(f, xs)
	if got != e || len(x) != len(answer) {
		t.Errorf("Tree(%d, %s) has %d levels, %d, not %d, %d", f, sample.Brief(xs), len(x), got, len(answer), e)
		return
	}
	for i := range x {
		if !same(x[i], answer[i]) {
			t.Errorf("Tree(%d, %s) has %s at the level %d, not %s", f, sample.Brief(xs), briefs(x[i]), i, briefs(answer[i]))
		}
	}
}

func wantValues(t *testing.T, f api.Field, p, xs, answer []uint64, e api.Errno) {
	t.Helper()
	if x, got := Values(f, p, xs); !slices.Equal(x, answer) || got != e {
		t.Errorf("Values(%d, %s, %s) = %s, %d, not %s, %d", f, sample.Brief(p), sample.Brief(xs), sample.Brief(x), got, sample.Brief(answer), e)
	}
}

func wantRemainders(t *testing.T, f api.Field, p []uint64, m, answer [][]uint64, e api.Errno) {
	t.Helper()
	if x, got := Remainders(f, p, m); !same(x, answer) || got != e {
		t.Errorf("Remainders(%d, %s; %s) = %s, %d, not %s, %d", f, sample.Brief(p), briefs(m), briefs(x), got, briefs(answer), e)
	}
}

func wantSlope(t *testing.T, f api.Field, p, answer []uint64, e api.Errno) {
	t.Helper()
	if x, got := Slope(f, p); !slices.Equal(x, answer) || got != e {
		t.Errorf("Slope(%d, %s) = %s, %d, not %s, %d", f, sample.Brief(p), sample.Brief(x), got, sample.Brief(answer), e)
	}
}

// noughts are the polynomial 0, with none and with noughts alone.
func noughts() [][]uint64 {
	return [][]uint64{nil, {}, l(0), l(0, 0, 0), make([]uint64, 2048)}
}

// alike is x, n times.
func alike(x uint64, n int) []uint64 {
	return slices.Repeat(l(x), n)
}

// sizes are all small ones, and the powers of two and those beside them.
func sizes() []int {
	var all []int
	for n := range 36 {
		all = append(all, n)
	}
	return append(all, 63, 64, 65, 127, 128, 129, 255, 256, 257)
}

// points are lists of elements: none, one, the element 0, ones that stand there twice, side by side or not, all sizes.
func points(f api.Field) [][]uint64 {
	top := sample.Prime(f) - 1
	all := [][]uint64{nil, {}, l(0), l(1), l(top), l(0, 0), l(5, 5), l(0, 0, 1), l(0, 1, 0), l(1, 0, 0), l(7, 7, 7), l(top, 1, top, 1, top), sample.Edges(f), alike(3, 31), alike(0, 33), alike(top, 64)}
	for _, n := range sizes() {
		all = append(all, sample.Run(f, n, n))
	}
	return all
}

// P6.1

func TestZero(t *testing.T) {
	for _, f := range sample.Fields() {
		for _, xs := range points(f) {
			wantZero(t, f, xs, zeroBy(f, xs), api.OK)
		}
		for _, x := range sample.Elements(f) {
			wantZero(t, f, l(x), factorBy(f, x), api.OK)
		}
		for _, none := range [][]uint64{nil, {}} {
			wantZero(t, f, none, l(1), api.OK)
		}
	}
}

func TestZeroOfMany(t *testing.T) {
	for _, f := range sample.Fields() {
		for _, n := range []int{1023, 1024, 1025, 2047, 2048} {
			xs := sample.Run(f, 9, n)
			wantZero(t, f, xs, zeroBy(f, xs), api.OK)
			wantZero(t, f, make([]uint64, n), sample.Power(n), api.OK)
		}
		wantZero(t, f, alike(1, 2048), zeroBy(f, alike(1, 2048)), api.OK)
	}
}

func TestTree(t *testing.T) {
	for _, f := range sample.Fields() {
		for _, xs := range points(f) {
			wantTree(t, f, xs, treeBy(f, xs), api.OK)
		}
		for _, x := range sample.Elements(f) {
			wantTree(t, f, l(x), [][][]uint64{{factorBy(f, x)}}, api.OK)
		}
		for _, none := range [][]uint64{nil, {}} {
			wantTree(t, f, none, nil, api.OK)
		}
	}
}

func TestTreeOfMany(t *testing.T) {
	for _, f := range sample.Fields() {
		for _, n := range []int{1023, 1024, 1025, 2047, 2048} {
			xs := sample.Run(f, 9, n)
			wantTree(t, f, xs, treeBy(f, xs), api.OK)
		}
		wantTree(t, f, make([]uint64, 2048), treeBy(f, make([]uint64, 2048)), api.OK)
	}
}

// One that is left stands at the end of the next level as it is, and is joined where it finds another one.
func TestTreeOfWhatIsLeft(t *testing.T) {
	for _, f := range sample.Fields() {
		x := func(xs ...uint64) []uint64 { return zeroBy(f, xs) }
		wantTree(t, f, l(4, 5), [][][]uint64{{x(4), x(5)}, {x(4, 5)}}, api.OK)
		wantTree(t, f, l(4, 5, 6), [][][]uint64{{x(4), x(5), x(6)}, {x(4, 5), x(6)}, {x(4, 5, 6)}}, api.OK)
		wantTree(t, f, l(4, 5, 6, 7), [][][]uint64{{x(4), x(5), x(6), x(7)}, {x(4, 5), x(6, 7)}, {x(4, 5, 6, 7)}}, api.OK)
		wantTree(t, f, l(4, 5, 6, 7, 8), [][][]uint64{{x(4), x(5), x(6), x(7), x(8)}, {x(4, 5), x(6, 7), x(8)}, {x(4, 5, 6, 7), x(8)}, {x(4, 5, 6, 7, 8)}}, api.OK)
		wantTree(t, f, l(4, 5, 6, 7, 8, 9), [][][]uint64{{x(4), x(5), x(6), x(7), x(8), x(9)}, {x(4, 5), x(6, 7), x(8, 9)}, {x(4, 5, 6, 7), x(8, 9)}, {x(4, 5, 6, 7, 8, 9)}}, api.OK)
	}
}

// P6.2, Values

func TestValues(t *testing.T) {
	for _, f := range sample.Fields() {
		for _, p := range slices.Concat(sample.Polys(f), noughts()) {
			for _, xs := range points(f) {
				wantValues(t, f, p, xs, valuesBy(f, poly.Trim(p), xs), api.OK)
			}
			for _, none := range [][]uint64{nil, {}} {
				wantValues(t, f, p, none, nil, api.OK)
			}
		}
	}
}

// Of a degree far below, beside and far above the number of the points.
func TestValuesOfAllDegrees(t *testing.T) {
	for _, f := range sample.Fields() {
		for _, n := range sizes() {
			xs := sample.Run(f, 2, n)
			for _, long := range []int{0, 1, 2, n / 2, n - 1, n, n + 1, n + 2, 2*n + 1, 3 * n} {
				p := sample.Run(f, 300, max(long, 0))
				wantValues(t, f, p, xs, valuesBy(f, p, xs), api.OK)
				wantValues(t, f, sample.Padded(p, 1000), xs, valuesBy(f, p, xs), api.OK)
			}
		}
	}
}

func TestValuesAtOnePoint(t *testing.T) {
	for _, f := range sample.Fields() {
		for _, p := range append(sample.Polys(f), sample.Run(f, 4, 2048)) {
			for _, x := range sample.Elements(f) {
				wantValues(t, f, p, l(x), valuesBy(f, p, l(x)), api.OK)
			}
		}
	}
}

func TestValuesAtAPointTwice(t *testing.T) {
	for _, f := range sample.Fields() {
		p := sample.Run(f, 8, 50)
		for _, n := range []int{2, 3, 16, 17, 100} {
			wantValues(t, f, p, alike(6, n), alike(valuesBy(f, p, l(6))[0], n), api.OK)
			wantValues(t, f, p, alike(0, n), alike(p[0], n), api.OK)
		}
		xs := l(6, 7, 6, 6, 0, 7, 0)
		wantValues(t, f, p, xs, valuesBy(f, p, xs), api.OK)
	}
}

// Where all values are 0 for one part of the points, nothing is handed down there.
func TestValuesThatAreZero(t *testing.T) {
	for _, f := range sample.Fields() {
		xs := sample.Run(f, 2, 13)
		for from := range xs {
			for to := from; to <= len(xs); to++ {
				p := zeroBy(f, xs[from:to])
				wantValues(t, f, p, xs, valuesBy(f, p, xs), api.OK)
			}
		}
	}
}

func TestValuesAtTheLimit(t *testing.T) {
	for _, f := range sample.Fields() {
		for _, n := range []int{1, 1025, 2047, 2048} {
			p, xs := sample.Run(f, 11, 2048), sample.Run(f, 5, n)
			wantValues(t, f, p, xs, valuesBy(f, p, xs), api.OK)
			wantValues(t, f, xs, p, valuesBy(f, xs, p), api.OK)
			wantValues(t, f, make([]uint64, 2048), xs, make([]uint64, n), api.OK)
		}
		wantValues(t, f, l(9), make([]uint64, 2048), alike(9, 2048), api.OK)
		wantValues(t, f, sample.Padded(l(4, 1), 2048), l(3), l(7), api.OK)
	}
}

// P6.2, Remainders

// divisors are polynomials of all kinds that are not 0, some with noughts at their end.
func divisors(f api.Field) [][]uint64 {
	return slices.DeleteFunc(sample.Polys(f), func(p []uint64) bool { return poly.Degree(p) < 0 })
}

func TestRemainders(t *testing.T) {
	for _, f := range sample.Fields() {
		m := divisors(f)
		for _, p := range slices.Concat(sample.Polys(f), noughts(), [][]uint64{sample.Run(f, 7, 300), sample.Run(f, 7, 2048)}) {
			wantRemainders(t, f, p, m, remaindersBy(f, p, m), api.OK)
			slices.Reverse(m)
			for _, q := range m {
				wantRemainders(t, f, p, [][]uint64{q}, [][]uint64{remainderBy(f, p, q)}, api.OK)
			}
			for _, none := range [][][]uint64{nil, {}} {
				wantRemainders(t, f, p, none, nil, api.OK)
			}
		}
	}
}

func TestRemaindersByHand(t *testing.T) {
	for _, f := range sample.Fields() {
		top := sample.Prime(f) - 1
		p := l(1, 2, 1)
		for _, c := range sample.NotZero(sample.Edges(f)) {
			wantRemainders(t, f, p, [][]uint64{l(c), l(c, 0, 0)}, [][]uint64{nil, nil}, api.OK)
		}
		// By a higher degree, by one as high, by p itself, by one with noughts at its end, by one that comes twice.
		wantRemainders(t, f, p, [][]uint64{sample.Power(3), sample.Power(2047)}, [][]uint64{p, p}, api.OK)
		wantRemainders(t, f, p, [][]uint64{l(0, 0, 1), p, l(2, 4, 2)}, [][]uint64{l(1, 2), nil, nil}, api.OK)
		wantRemainders(t, f, p, [][]uint64{l(top, 1, 0, 0), sample.Padded(l(top, 1), 2048)}, [][]uint64{l(4), l(4)}, api.OK)
		wantRemainders(t, f, p, [][]uint64{l(0, 1), l(1, 1), l(0, 1)}, [][]uint64{l(1), nil, l(1)}, api.OK)
		wantRemainders(t, f, sample.Padded(p, 2048), [][]uint64{l(0, 1), sample.Power(5)}, [][]uint64{l(1), p}, api.OK)
	}
}

// There are no less than 2048, and no two remainders are in one another's place.
func TestRemaindersByMany(t *testing.T) {
	for _, f := range sample.Fields() {
		p, xs := sample.Run(f, 7, 100), sample.Run(f, 1, 2048)
		values := valuesBy(f, p, xs)
		var m, answer [][]uint64
		for i, x := range xs {
			m, answer = append(m, factorBy(f, x)), append(answer, poly.Trim(values[i:i+1]))
		}
		wantRemainders(t, f, p, m, answer, api.OK)
		wantRemainders(t, f, p, m[:2047], answer[:2047], api.OK)
		long := sample.Run(f, 7, 2048)
		wantRemainders(t, f, long, m[:5], remaindersBy(f, long, m[:5]), api.OK)
		wantRemainders(t, f, long, [][]uint64{sample.Run(f, 3, 2048), sample.Run(f, 3, 1024), sample.Run(f, 3, 2)}, remaindersBy(f, long, [][]uint64{sample.Run(f, 3, 2048), sample.Run(f, 3, 1024), sample.Run(f, 3, 2)}), api.OK)
	}
}

// Their product would be far longer than any list: it is never made.
func TestRemaindersByManyLongOnes(t *testing.T) {
	for _, f := range sample.Fields() {
		q := sample.Run(f, 3, 2048)
		wantRemainders(t, f, l(5, 6), slices.Repeat([][]uint64{q}, 2048), slices.Repeat([][]uint64{l(5, 6)}, 2048), api.OK)
	}
}

// P6.3

func TestSlope(t *testing.T) {
	for _, f := range sample.Fields() {
		for _, p := range slices.Concat(sample.Polys(f), noughts(), points(f)) {
			wantSlope(t, f, p, slopeBy(f, p), api.OK)
			wantSlope(t, f, sample.Padded(p, 2048), slopeBy(f, p), api.OK)
		}
		for _, n := range []int{1024, 2047, 2048} {
			wantSlope(t, f, sample.Run(f, 6, n), slopeBy(f, sample.Run(f, 6, n)), api.OK)
		}
	}
}

func TestSlopeByHand(t *testing.T) {
	for _, f := range sample.Fields() {
		top := sample.Prime(f) - 1
		for _, zero := range noughts() {
			wantSlope(t, f, zero, nil, api.OK)
		}
		for _, c := range sample.Elements(f) {
			wantSlope(t, f, l(c), nil, api.OK)
			wantSlope(t, f, l(c, 0, 0), nil, api.OK)
			wantSlope(t, f, l(c, 1), l(1), api.OK)
			wantSlope(t, f, l(1, c, 0), poly.Trim(l(c)), api.OK)
		}
		wantSlope(t, f, l(1, 0, 1, 0, 0), l(0, 2), api.OK)
		wantSlope(t, f, l(1, 1, top, top), l(1, top-1, top-2), api.OK)
		wantSlope(t, f, sample.Power(2047), append(make([]uint64, 2046), 2047), api.OK)
	}
}

// The examples of the chapter.

func TestExamples(t *testing.T) {
	const p = 2013265921
	wantZero(t, api.Small, l(1, 2), l(2, 2013265918, 1), api.OK)
	wantZero(t, api.Large, nil, l(1), api.OK)
	wantTree(t, api.Small, l(0, 0, 1), [][][]uint64{{l(0, 1), l(0, 1), l(p-1, 1)}, {l(0, 0, 1), l(p-1, 1)}, {l(0, 0, p-1, 1)}}, api.OK)
	wantValues(t, api.Small, l(0, 0, 1), l(2, 3), l(4, 9), api.OK)
	wantValues(t, api.Small, nil, l(5), l(0), api.OK)
	wantValues(t, api.Small, l(1), nil, nil, api.OK)
	wantRemainders(t, api.Small, l(1, 2, 1), [][]uint64{l(0, 1), l(5)}, [][]uint64{l(1), nil}, api.OK)
	wantRemainders(t, api.Small, l(1), [][]uint64{l(0)}, nil, api.ErrZero)
	wantSlope(t, api.Small, l(7, 1, 3), l(1, 6), api.OK)
	wantSlope(t, api.Small, l(9), nil, api.OK)
}
