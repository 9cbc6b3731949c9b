package interp

// P7.1 to P7.3: the errors, which of them comes first, and what stands beside them.

import (
	"math"
	"slices"
	"testing"

	"conclave/api"
	"conclave/sample"
)

// input is all that may be handed in; a call takes what it has a place for.
type input struct {
	f          api.Field
	xs, ys, zs []uint64
	x          uint64
	degree     int
}

// errorBy is the error by the words of the chapter.
func errorBy(in input) api.Errno {
	numbers := slices.Concat(in.xs, in.ys, in.zs, l(in.x))
	slices.Sort(numbers)
	sorted := slices.Sorted(slices.Values(in.xs))
	switch {
	case sample.Prime(in.f) == 0 || numbers[len(numbers)-1] >= sample.Prime(in.f) || in.degree < -1:
		return api.ErrArg
	case len(in.xs) != len(in.ys):
		return api.ErrShape
	case len(in.xs) > 512 || len(in.zs) > 512:
		return api.ErrLimit
	case len(slices.Compact(sorted)) < len(in.xs):
		return api.ErrTwice
	}
	return api.OK
}

// wantError has all calls answer the error by what each of them takes, and nothing beside it.
func wantError(t *testing.T, in input) {
	t.Helper()
	tell := func(what string, takes input, nothing bool, got api.Errno) {
		t.Helper()
		e := errorBy(takes)
		if got != e || e != api.OK && !nothing {
			t.Errorf("%s(field %d, %s, ys %s, zs %s, x %d, degree %d): %d, not %d, or something beside it", what, in.f, sample.Brief(in.xs), sample.Brief(in.ys), sample.Brief(in.zs), in.x, in.degree, got, e)
		}
	}
	p, e := Through(in.f, in.xs, in.ys)
	tell("Through", input{f: in.f, xs: in.xs, ys: in.ys}, len(p) == 0, e)
	w, e := Weights(in.f, in.xs)
	tell("Weights", input{f: in.f, xs: in.xs, ys: in.xs}, len(w) == 0, e)
	b, e := Basis(in.f, in.xs, in.x)
	tell("Basis", input{f: in.f, xs: in.xs, ys: in.xs, x: in.x}, len(b) == 0, e)
	y, e := Value(in.f, in.xs, in.ys, in.x)
	tell("Value", input{f: in.f, xs: in.xs, ys: in.ys, x: in.x}, y == 0, e)
	rows, e := Change(in.f, in.xs, in.zs)
	tell("Change", input{f: in.f, xs: in.xs, ys: in.xs, zs: in.zs}, len(rows) == 0, e)
	ok, e := Fits(in.f, in.xs, in.ys, in.degree)
	tell("Fits", input{f: in.f, xs: in.xs, ys: in.ys, degree: in.degree}, !ok, e)
}

// with is a list with a at the place i.
func with(list []uint64, i int, a uint64) []uint64 {
	list = slices.Clone(list)
	list[i] = a
	return list
}

// faults are lists with each fault, and with several of them: numbers that are no elements, elements that stand twice, lengths about the limit and past poly's.
func faults(f api.Field) [][]uint64 {
	three, most, more := sample.Unlike(f, 0, 3), sample.Unlike(f, 0, 512), sample.Unlike(f, 0, 513)
	lists := [][]uint64{
		nil, {}, l(0), l(1), three, l(2, 2), l(0, 0), l(0, 5, 0), l(5, 0, 5, 0), l(7, 7, 7),
		most, with(most, 511, most[0]), with(most, 1, most[0]), with(most, 300, most[299]),
		more, with(more, 512, more[0]), make([]uint64, 513), sample.Unlike(f, 0, 4097),
	}
	out := sample.Prime(f)
	for _, a := range sample.Outside(f) {
		lists = append(lists, l(a), l(a, a), with(three, 0, a), with(three, 2, a), l(2, 2, a))
	}
	return append(lists, with(most, 511, out), with(more, 0, out), with(more, 512, out), with(make([]uint64, 4097), 4096, out))
}

func TestOneListFaulty(t *testing.T) {
	for _, f := range sample.Fields() {
		for _, a := range faults(f) {
			for _, n := range []int{0, 1, 3, len(a)} {
				good := sample.Unlike(f, 0, min(n, 512))
				wantError(t, input{f: f, xs: a, ys: good, zs: good})
				wantError(t, input{f: f, xs: good, ys: a, zs: a})
			}
		}
	}
}

func TestManyFaulty(t *testing.T) {
	for _, f := range sample.Fields() {
		out := sample.Prime(f)
		for _, a := range faults(f) {
			for _, b := range faults(f) {
				wantError(t, input{f: f, xs: a, ys: b, zs: b, degree: -1})
				if len(a) < 10 || len(b) < 10 {
					wantError(t, input{f: f, xs: a, ys: b, zs: b, x: out, degree: -2})
					wantError(t, input{f: api.NoField, xs: a, ys: b, zs: b})
				}
			}
		}
	}
}

func TestNoField(t *testing.T) {
	for _, f := range sample.NoFields() {
		for _, xs := range [][]uint64{nil, l(0), l(1, 2), l(1, 1), sample.Unlike(api.Small, 0, 513)} {
			for _, x := range []uint64{0, 1, math.MaxUint64} {
				for _, degree := range []int{math.MinInt, -2, -1, 0, math.MaxInt} {
					wantError(t, input{f: f, xs: xs, ys: xs, zs: xs, x: x, degree: degree})
					wantError(t, input{f: f, xs: xs, x: x, degree: degree})
				}
			}
		}
	}
}

func TestXIsNoElement(t *testing.T) {
	for _, f := range sample.Fields() {
		for _, x := range append(sample.Outside(f), sample.Prime(f)-1) {
			for _, xs := range [][]uint64{nil, l(0), l(1, 2), l(1, 1), sample.Unlike(f, 0, 513)} {
				wantError(t, input{f: f, xs: xs, ys: xs, x: x})
				wantError(t, input{f: f, xs: xs, ys: l(1), x: x})
			}
		}
	}
	// What is an element of the one field is none of the other.
	x := sample.Prime(api.Small)
	wantError(t, input{f: api.Small, xs: l(1, 2), ys: l(1, 2), x: x})
	wantError(t, input{f: api.Large, xs: l(1, x), ys: l(x, 2), zs: l(x), x: x})
}

func TestDegreeBelow(t *testing.T) {
	for _, f := range sample.Fields() {
		for _, degree := range []int{math.MinInt, math.MinInt + 1, math.MinInt32, -513, -3, -2, -1, 0} {
			for _, xs := range [][]uint64{nil, l(0), l(1, 2), l(1, 1), sample.Unlike(f, 0, 513)} {
				wantError(t, input{f: f, xs: xs, ys: xs, degree: degree})
				wantError(t, input{f: f, xs: xs, ys: l(1), degree: degree})
			}
		}
	}
}

func TestLimits(t *testing.T) {
	for _, f := range sample.Fields() {
		for n, e := range map[int]api.Errno{511: api.OK, 512: api.OK, 513: api.ErrLimit, 1024: api.ErrLimit, 4096: api.ErrLimit, 4097: api.ErrLimit} {
			xs := sample.Unlike(f, 0, n)
			for what, got := range map[string]api.Errno{
				"places":       errorOf(Through(f, xs, xs)),
				"weights":      errorOf(Weights(f, xs)),
				"a basis":      errorOf(Basis(f, xs, 1)),
				"a value":      errorOf(Value(f, xs, xs, 1)),
				"the old ones": errorOf(Change(f, xs, l(1))),
				"the new ones": errorOf(Change(f, l(1), xs)),
				"a degree":     errorOf(Fits(f, xs, xs, 1)),
			} {
				if got != e {
					t.Errorf("field %d, %s of %d: %d, not %d", f, what, n, got, e)
				}
			}
		}
	}
}

func errorOf[T any](_ T, e api.Errno) api.Errno { return e }

// An element that stands twice is found wherever the two are.
func TestTwice(t *testing.T) {
	for _, f := range sample.Fields() {
		for _, n := range []int{2, 3, 9, 40} {
			for i := range n {
				for j := range n {
					xs := sample.Unlike(f, 0, n)
					xs[i] = xs[j]
					wantError(t, input{f: f, xs: xs, ys: sample.Run(f, 1, n), zs: xs})
				}
			}
		}
		wantThrough(t, f, l(4, 9, 4), l(1, 2, 1), nil, api.ErrTwice)
		wantFits(t, f, l(4, 9, 4), l(1, 2, 1), 5, false, api.ErrTwice)
		wantValue(t, f, l(4, 9, 4), l(1, 2, 1), 4, 0, api.ErrTwice)
		wantBasis(t, f, l(4, 9, 4), 9, nil, api.ErrTwice)
		wantWeights(t, f, l(4, 9, 4), nil, api.ErrTwice)
		wantChange(t, f, l(4, 9, 4), l(9), nil, api.ErrTwice)
		wantChange(t, f, l(4, 9, 4), nil, nil, api.ErrTwice)
	}
}
