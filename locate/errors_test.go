package locate

// P17.1 and P17.2: the errors, which of them comes first, and what stands beside them.

import (
	"math"
	"math/big"
	"slices"
	"testing"

	"conclave/api"
	"conclave/sample"
)

// input is all that may be handed in; a call takes what it has a place for.
type input struct {
	f             api.Field
	p, xs, ys     []uint64
	at            []int
	degree, wrong int
}

// By the words of the chapter.

func elementsBy(f api.Field, lists ...[]uint64) bool {
	return !slices.ContainsFunc(slices.Concat(lists...), func(a uint64) bool { return a >= sample.Prime(f) })
}

func twiceBy[T uint64 | int](list []T) bool {
	rising := slices.Clone(list)
	slices.Sort(rising)
	return len(slices.Compact(rising)) < len(list)
}

func shortBy(n, degree, wrong int) bool {
	least := big.NewInt(int64(wrong))
	least.Lsh(least, 1)
	least.Add(least, big.NewInt(int64(degree)))
	least.Add(least, big.NewInt(1))
	return least.Cmp(big.NewInt(int64(n))) > 0
}

// errorBy is the first of the errors that apply.
func errorBy(arg, shape, limit, twice, short bool) api.Errno {
	switch {
	case arg:
		return api.ErrArg
	case shape:
		return api.ErrShape
	case limit:
		return api.ErrLimit
	case twice:
		return api.ErrTwice
	case short:
		return api.ErrShort
	}
	return api.OK
}

// told are the errors of all calls.
type told struct{ decode, locator, agree api.Errno }

func toldBy(in input) told {
	n, none := len(in.xs), sample.Prime(in.f) == 0
	nowhere := slices.ContainsFunc(in.at, func(i int) bool { return i < 0 || i >= n })
	shape, twice := n != len(in.ys), twiceBy(in.xs)
	return told{
		errorBy(none || !elementsBy(in.f, in.xs, in.ys) || in.degree < -1 || in.wrong < 0, shape, n > 512, twice, shortBy(n, in.degree, in.wrong)),
		errorBy(none || !elementsBy(in.f, in.xs) || nowhere, false, n > 512, twice || twiceBy(in.at), false),
		errorBy(none || !elementsBy(in.f, in.p, in.xs, in.ys), shape, n > 512 || len(in.p) > 4096, twice, false),
	}
}

// wantErrors has all calls answer the errors by the words, and nothing beside one; it tells them.
func wantErrors(t *testing.T, in input) told {
	t.Helper()
	want := toldBy(in)
	tell := func(what string, e, got api.Errno, nothing bool) {
		t.Helper()
		if got != e || e != api.OK && !nothing {
			t.Errorf("%s(field %d, p %s, xs %s, ys %s, %d numbers, degree %d, wrong %d): %d, not %d, or something beside it", what, in.f, sample.Brief(in.p), sample.Brief(in.xs), sample.Brief(in.ys), len(in.at), in.degree, in.wrong, got, e)
		}
	}
	p, at, ok, e := Decode(in.f, in.xs, in.ys, in.degree, in.wrong)
	tell("Decode", want.decode, e, len(p) == 0 && len(at) == 0 && !ok)
	locator, e := Locator(in.f, in.xs, in.at)
	tell("Locator", want.locator, e, len(locator) == 0)
	n, e := Agree(in.f, in.p, in.xs, in.ys)
	tell("Agree", want.agree, e, n == 0)
	return want
}

// want has the calls answer just these errors.
func want(t *testing.T, in input, decode, locator, agree api.Errno) {
	t.Helper()
	if got := wantErrors(t, in); got != (told{decode, locator, agree}) {
		t.Errorf("field %d, p %s, xs %s, ys %s, %d, %d, %d: %v, not %d, %d, %d", in.f, sample.Brief(in.p), sample.Brief(in.xs), sample.Brief(in.ys), in.at, in.degree, in.wrong, got, decode, locator, agree)
	}
}

// good is an input with n places and as many wrong as these bear: nothing is wrong with it.
func good(f api.Field, n int) input {
	xs, p := sample.Unlike(f, 0, n), sample.Run(f, 3, 2)
	return input{f: f, p: p, xs: xs, ys: valuesBy(f, p, xs), at: sample.Mixed(1, n)[:n/2], degree: 0, wrong: (n - 1) / 2}
}

// with is a list with a at the place i.
func with[T any](list []T, i int, a T) []T {
	list = slices.Clone(list)
	list[i] = a
	return list
}

func TestNothingIsWrong(t *testing.T) {
	for _, f := range sample.Fields() {
		for _, n := range []int{1, 2, 3, 10, 511, 512} {
			want(t, good(f, n), api.OK, api.OK, api.OK)
		}
		want(t, input{f: f, degree: -1}, api.OK, api.OK, api.OK)
	}
}

func TestNoField(t *testing.T) {
	for f := range 256 {
		if f == 1 || f == 2 {
			continue
		}
		for _, in := range []input{good(api.Small, 5), {degree: -1}, {xs: l(1, 1), at: at(0, 0)}, {xs: l(1, 2), ys: l(1)}, {xs: sample.Unlike(api.Small, 0, 513), p: make([]uint64, 4097)}, {degree: math.MaxInt, wrong: math.MaxInt}} {
			in.f = api.Field(f)
			want(t, in, api.ErrArg, api.ErrArg, api.ErrArg)
		}
	}
}

// Numbers that are no elements, at each place of each list.
func TestNoElement(t *testing.T) {
	for _, f := range sample.Fields() {
		for _, a := range sample.Outside(f) {
			for _, n := range []int{1, 2, 7} {
				for i := range n {
					in := good(f, n)
					in.xs = with(in.xs, i, a)
					want(t, in, api.ErrArg, api.ErrArg, api.ErrArg)
					in = good(f, n)
					in.ys = with(in.ys, i, a)
					want(t, in, api.ErrArg, api.OK, api.ErrArg)
				}
				for i := range 2 {
					in := good(f, n)
					in.p = with(in.p, i, a)
					want(t, in, api.OK, api.OK, api.ErrArg)
				}
			}
			in := good(f, 3)
			in.p = with(make([]uint64, 4097), 4096, a)
			want(t, in, api.OK, api.OK, api.ErrArg)
		}
	}
	// What is no element of the one field is one of the other.
	a := sample.Prime(api.Small)
	want(t, input{f: api.Large, p: l(a), xs: l(a), ys: l(a)}, api.OK, api.OK, api.OK)
	want(t, input{f: api.Small, p: l(a), xs: l(a), ys: l(a)}, api.ErrArg, api.ErrArg, api.ErrArg)
}

func TestDegreeOrWrongBelow(t *testing.T) {
	below := []int{math.MinInt, math.MinInt + 1, math.MinInt32, -513, -3}
	for _, f := range sample.Fields() {
		for _, n := range []int{1, 2, 9} {
			for _, degree := range append(below, -2) {
				for _, wrong := range []int{math.MinInt, -1, 0, 1, math.MaxInt} {
					in := good(f, n)
					in.degree, in.wrong = degree, wrong
					want(t, in, api.ErrArg, api.OK, api.OK)
				}
			}
			for _, wrong := range append(below, -2, -1) {
				for _, degree := range []int{-1, 0, 1, n, 600, math.MaxInt} {
					in := good(f, n)
					in.degree, in.wrong = degree, wrong
					want(t, in, api.ErrArg, api.OK, api.OK)
				}
			}
		}
		// Ahead of all else.
		for _, c := range []pair{{-2, 0}, {0, -1}, {math.MinInt, math.MinInt}} {
			for _, in := range []input{{xs: l(1), ys: l(1, 2)}, {xs: sample.Unlike(f, 0, 513), ys: sample.Unlike(f, 0, 513)}, {xs: l(4, 4), ys: l(1, 1)}} {
				in.f, in.degree, in.wrong = f, c.degree, c.wrong
				if got := wantErrors(t, in); got.decode != api.ErrArg {
					t.Errorf("%v: %d", c, got.decode)
				}
			}
		}
	}
}

// Numbers of places that there are not, wherever they stand among others.
func TestNoPlace(t *testing.T) {
	for _, f := range sample.Fields() {
		for _, n := range []int{1, 3, 512} {
			for _, i := range []int{-1, -2, -n, math.MinInt, n, n + 1, 512, 513, 4096, 1 << 32, math.MaxInt} {
				if i >= 0 && i < n {
					continue
				}
				for _, numbers := range [][]int{{i}, {0, i}, {i, 0}, {0, i, 0}, {0, 0, i}, {i, i}} {
					wantLocator(t, f, sample.Unlike(f, 0, n), numbers, nil, api.ErrArg)
				}
			}
		}
		for _, i := range []int{-1, 0, 1, math.MaxInt} {
			want(t, input{f: f, degree: -1, at: at(i)}, api.OK, api.ErrArg, api.OK)
		}
		// Ahead of too many places, and of a place that stands twice.
		many := sample.Unlike(f, 0, 513)
		want(t, input{f: f, xs: many, ys: many, at: at(513)}, api.ErrLimit, api.ErrArg, api.ErrLimit)
		want(t, input{f: f, xs: many, ys: many, at: at(512)}, api.ErrLimit, api.ErrLimit, api.ErrLimit)
		want(t, input{f: f, xs: l(4, 4), ys: l(1, 1), at: at(2)}, api.ErrTwice, api.ErrArg, api.ErrTwice)
	}
}

func TestShape(t *testing.T) {
	for _, f := range sample.Fields() {
		for _, n := range []int{0, 1, 2, 3, 10, 511, 512, 513, 4097} {
			for _, m := range []int{0, 1, 2, 3, 9, 11, 511, 512, 513, 4096} {
				in := input{f: f, xs: sample.Unlike(f, 0, n), ys: sample.Run(f, 2, m), degree: -1, p: l(1)}
				got := wantErrors(t, in)
				if n != m && (got.decode != api.ErrShape || got.agree != api.ErrShape) {
					t.Errorf("%d places, %d values: %d, %d", n, m, got.decode, got.agree)
				}
			}
		}
		// Ahead of a polynomial that is too long, of a place that stands twice, and of too few places.
		want(t, input{f: f, p: make([]uint64, 4097), xs: l(3, 3), ys: l(1), degree: 9}, api.ErrShape, api.ErrTwice, api.ErrShape)
	}
}

func TestLimits(t *testing.T) {
	for _, f := range sample.Fields() {
		for n, e := range map[int]api.Errno{511: api.OK, 512: api.OK, 513: api.ErrLimit, 514: api.ErrLimit, 1024: api.ErrLimit, 4096: api.ErrLimit, 4097: api.ErrLimit, 9000: api.ErrLimit} {
			want(t, good(f, n), e, e, e)
			// Too many places go ahead of one that stands twice, of a number that does and of too few places for so much.
			if in := good(f, n); e != api.OK {
				in.xs, in.at, in.degree = with(in.xs, n-1, in.xs[0]), at(0, 0), math.MaxInt
				want(t, in, e, e, e)
			}
		}
		for _, c := range []struct {
			n            int
			alone, twice api.Errno
		}{{4095, api.OK, api.ErrTwice}, {4096, api.OK, api.ErrTwice}, {4097, api.ErrLimit, api.ErrLimit}, {8192, api.ErrLimit, api.ErrLimit}} {
			for _, p := range [][]uint64{make([]uint64, c.n), sample.Padded(l(2, 1), c.n), sample.Run(f, 1, c.n)} {
				in := good(f, 3)
				in.p = p
				want(t, in, api.OK, api.OK, c.alone)
				in.xs = l(6, 2, 6)
				want(t, in, api.ErrTwice, api.ErrTwice, c.twice)
			}
		}
	}
}

// A place, or a place's number, that stands twice is found wherever the two are.
func TestTwice(t *testing.T) {
	for _, f := range sample.Fields() {
		for _, n := range []int{2, 3, 9} {
			for i := range n {
				for j := range i {
					in := good(f, n)
					in.xs = with(in.xs, i, in.xs[j])
					want(t, in, api.ErrTwice, api.ErrTwice, api.ErrTwice)
					in.at, in.degree, in.wrong = nil, math.MaxInt, math.MaxInt
					want(t, in, api.ErrTwice, api.ErrTwice, api.ErrTwice)
					in = good(f, n)
					in.at = with(sample.Mixed(1, n), i, sample.Mixed(1, n)[j])
					want(t, in, api.OK, api.ErrTwice, api.OK)
				}
			}
		}
		in := good(f, 512)
		in.xs = with(in.xs, 511, in.xs[0])
		want(t, in, api.ErrTwice, api.ErrTwice, api.ErrTwice)
		in = good(f, 512)
		in.at = with(sample.Inputs(512), 511, 0)
		want(t, in, api.OK, api.ErrTwice, api.OK)
		// More numbers than there are places, more than places may be, more than a list of elements may have.
		for _, many := range []int{4, 5, 513, 4097} {
			in = good(f, 3)
			in.at = make([]int, many)
			for i := range in.at {
				in.at[i] = i % 3
			}
			want(t, in, api.OK, api.ErrTwice, api.OK)
		}
	}
}

// Just enough places, and one too few, of each degree and each wrong.
func TestShort(t *testing.T) {
	for _, f := range sample.Fields() {
		for n := range 12 {
			for degree := -1; degree < 14; degree++ {
				for wrong := range 9 {
					in := good(f, n)
					in.degree, in.wrong = degree, wrong
					e := api.OK
					if n < degree+2*wrong+1 {
						e = api.ErrShort
					}
					want(t, in, e, api.OK, api.OK)
				}
			}
		}
		for _, c := range []struct {
			pair
			e api.Errno
		}{{pair{511, 0}, api.OK}, {pair{512, 0}, api.ErrShort}, {pair{-1, 256}, api.OK}, {pair{-1, 257}, api.ErrShort}, {pair{0, 255}, api.OK}, {pair{0, 256}, api.ErrShort}, {pair{255, 128}, api.OK}, {pair{256, 128}, api.ErrShort}} {
			in := good(f, 512)
			in.degree, in.wrong = c.degree, c.wrong
			want(t, in, c.e, api.OK, api.OK)
		}
	}
}

// Huge numbers, also such as would come out low again, were they added up in words.
func TestShortOfHugeNumbers(t *testing.T) {
	huge := []int{513, 4096, math.MaxInt32, 1 << 32, 1<<62 - 1, 1 << 62, 1<<62 + 1, math.MaxInt - 1, math.MaxInt}
	low := []int{0, 1, 2, 10}
	for _, f := range sample.Fields() {
		for _, n := range []int{0, 1, 2, 5, 40} {
			for _, degree := range slices.Concat(at(-1), low, huge) {
				for _, wrong := range slices.Concat(low, huge) {
					if max(degree, wrong) > 40 {
						in := good(f, n)
						in.degree, in.wrong = degree, wrong
						want(t, in, api.ErrShort, api.OK, api.OK)
					}
				}
			}
		}
	}
}

// faults are lists with each fault, and with several of them: numbers that are no elements, elements that stand twice, lengths about the limits and past poly's.
func faults(f api.Field) [][]uint64 {
	out, more := sample.Prime(f), sample.Unlike(f, 0, 513)
	return [][]uint64{
		nil, l(0), l(1, 2, 3), l(2, 2), l(0, 5, 0), more, with(more, 512, more[0]), make([]uint64, 4097),
		l(out), l(1, 2, out), l(2, 2, math.MaxUint64), with(more, 0, out), with(make([]uint64, 4097), 4096, out),
	}
}

// All faults crossed.
func TestManyFaulty(t *testing.T) {
	numbers := [][]int{nil, at(0), at(0, 0), at(1, 0, 1), at(-1), at(2, 2, 3), at(0, 512), at(0, 513)}
	pairs := []pair{{-1, 0}, {0, 0}, {1, 1}, {-2, 0}, {0, -1}, {math.MaxInt, math.MaxInt}}
	for _, f := range append(sample.Fields(), api.NoField) {
		lists := faults(api.Small)
		if f == api.Large {
			lists = faults(f)
		}
		for i, xs := range lists {
			for j, ys := range lists {
				for k, p := range lists {
					c := pairs[(i+j+k)%len(pairs)]
					wantErrors(t, input{f, p, xs, ys, numbers[(i+j+k)%len(numbers)], c.degree, c.wrong})
				}
				for _, c := range pairs {
					wantErrors(t, input{f: f, xs: xs, ys: ys, degree: c.degree, wrong: c.wrong})
				}
			}
			for _, at := range numbers {
				wantErrors(t, input{f: f, xs: xs, ys: xs, at: at, degree: -1})
			}
		}
	}
}
