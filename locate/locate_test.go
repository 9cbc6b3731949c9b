package locate

import (
	"slices"
	"testing"

	"conclave/api"
	"conclave/field"
	"conclave/poly"
	"conclave/sample"
	"conclave/tree"
)

func l(a ...uint64) []uint64 { return a }

func at(i ...int) []int { return i }

// The reference: by the words of the chapter, from the fields on.

func valuesBy(f api.Field, p, xs []uint64) []uint64 {
	ys := make([]uint64, len(xs))
	for i, x := range xs {
		ys[i], _ = poly.Eval(f, p, x)
	}
	return ys
}

// throughBy goes from place to place: so much of the product that is 0 at all places ahead is added that the value at this one comes out.
func throughBy(f api.Field, xs, ys []uint64) []uint64 {
	var p []uint64
	zero := l(1)
	for i, x := range xs {
		here, _ := poly.Eval(f, p, x)
		rise, _ := poly.Eval(f, zero, x)
		less, _ := field.Sub(f, ys[i], here)
		c, _ := field.Div(f, less, rise)
		more, _ := poly.Scale(f, c, zero)
		p, _ = poly.Add(f, p, more)
		zero = times(f, zero, x)
	}
	return p
}

// times is p times the factor of x.
func times(f api.Field, p []uint64, x uint64) []uint64 {
	minus, _ := field.Sub(f, 0, x)
	product, _ := poly.Mul(f, p, l(minus, 1))
	return product
}

// chosen are the elements of a list at some places.
func chosen(list []uint64, at []int) []uint64 {
	var some []uint64
	for _, i := range at {
		some = append(some, list[i])
	}
	return some
}

// offBy are the numbers of the places whose values don't lie on p.
func offBy(f api.Field, p, xs, ys []uint64) []int {
	var off []int
	for i, y := range valuesBy(f, p, xs) {
		if y != ys[i] {
			off = append(off, i)
		}
	}
	return off
}

// searchBy has the polynomials through any degree + 1 of the places (of the degree -1 that is 0) on which all but at most wrong of the values lie, each once. There is no other one, since at least degree + 1 of the values lie on it.
func searchBy(f api.Field, xs, ys []uint64, degree, wrong int) [][]uint64 {
	var found [][]uint64
	for _, some := range sample.EveryChoice(len(xs), degree+1) {
		p := throughBy(f, chosen(xs, some), chosen(ys, some))
		known := slices.ContainsFunc(found, func(q []uint64) bool { return slices.Equal(p, q) })
		if !known && len(offBy(f, p, xs, ys)) <= wrong {
			found = append(found, p)
		}
	}
	return found
}

func wantDecode(t *testing.T, f api.Field, xs, ys []uint64, degree, wrong int, p []uint64, at []int, ok bool, e api.Errno) {
	t.Helper()
	if q, off, is, got := Decode(f, xs, ys, degree, wrong); !slices.Equal(q, p) || !slices.Equal(off, at) || is != ok || got != e {
		t.Errorf("Decode(%d, %s, %s, %d, %d) = %s, %d, %v, %d, not %s, %d, %v, %d", f, sample.Brief(xs), sample.Brief(ys), degree, wrong, sample.Brief(q), off, is, got, sample.Brief(p), at, ok, e)
	}
}

// wantTold has Decode tell p, and the values that don't lie on it.
func wantTold(t *testing.T, f api.Field, xs, ys []uint64, degree, wrong int, p []uint64) {
	t.Helper()
	wantDecode(t, f, xs, ys, degree, wrong, poly.Trim(p), offBy(f, p, xs, ys), true, api.OK)
}

func wantNone(t *testing.T, f api.Field, xs, ys []uint64, degree, wrong int) {
	t.Helper()
	wantDecode(t, f, xs, ys, degree, wrong, nil, nil, false, api.OK)
}

// wantSearched has Decode tell what the search finds.
func wantSearched(t *testing.T, f api.Field, xs, ys []uint64, degree, wrong int) {
	t.Helper()
	switch found := searchBy(f, xs, ys, degree, wrong); len(found) {
	case 0:
		wantNone(t, f, xs, ys, degree, wrong)
	case 1:
		wantTold(t, f, xs, ys, degree, wrong, found[0])
	default:
		t.Fatalf("field %d, %s, %s, %d, %d: there are %d polynomials", f, sample.Brief(xs), sample.Brief(ys), degree, wrong, len(found))
	}
}

func wantLocator(t *testing.T, f api.Field, xs []uint64, at []int, answer []uint64, e api.Errno) {
	t.Helper()
	if p, got := Locator(f, xs, at); !slices.Equal(p, answer) || got != e {
		t.Errorf("Locator(%d, %s, %d) = %s, %d, not %s, %d", f, sample.Brief(xs), at, sample.Brief(p), got, sample.Brief(answer), e)
	}
}

func wantAgree(t *testing.T, f api.Field, p, xs, ys []uint64, answer int, e api.Errno) {
	t.Helper()
	if n, got := Agree(f, p, xs, ys); n != answer || got != e {
		t.Errorf("Agree(%d, %s, %s, %s) = %d, %d, not %d, %d", f, sample.Brief(p), sample.Brief(xs), sample.Brief(ys), n, got, answer, e)
	}
}

// places are few unlike elements: none, one, more; with 0 and the greatest one at each end, within and not at all; in and out of order.
func places(f api.Field) [][]uint64 {
	top := sample.Prime(f) - 1
	return [][]uint64{
		nil, {}, l(0), l(top), l(5),
		l(0, top), l(top, 0), l(3, 8),
		l(0, 1, 2), l(7, 0, 3), l(top, 4, top/2),
		l(0, 1, 2, 3), l(1, top, 0, 2),
		l(0, 1, 2, 3, 4), l(9, top, 4, 0, top/2),
		sample.Unlike(f, 0, 6), sample.Unlike(f, 60, 7),
	}
}

// pair is a degree, and how many values may be wrong.
type pair struct{ degree, wrong int }

// borne are all pairs that n places are enough for.
func borne(n int) []pair {
	var pairs []pair
	for degree := -1; degree < n; degree++ {
		for wrong := 0; degree+2*wrong+1 <= n; wrong++ {
			pairs = append(pairs, pair{degree, wrong})
		}
	}
	return pairs
}

// turned are the values with others at some places.
func turned(f api.Field, ys []uint64, at []int) []uint64 {
	ys = slices.Clone(ys)
	for i, more := range sample.NotZero(sample.Scattered(f, 2*len(at)))[:len(at)] {
		ys[at[i]], _ = field.Add(f, ys[at[i]], more)
	}
	return ys
}

// turnedTo are the values with a at some places, or with the other one where a is there already.
func turnedTo(ys []uint64, at []int, a, other uint64) []uint64 {
	ys = slices.Clone(ys)
	for _, i := range at {
		if ys[i] == a {
			ys[i] = other
		} else {
			ys[i] = a
		}
	}
	return ys
}

// values are of many kinds: 0 and the same everywhere, the places themselves, of no order, and polynomials' of all degrees, with none, some and all of them turned, at the first and the last places, at both ends and anywhere.
func values(f api.Field, xs []uint64) [][]uint64 {
	n, top := len(xs), sample.Prime(f)-1
	lists := [][]uint64{make([]uint64, n), slices.Repeat(l(top), n), slices.Clone(xs), sample.Run(f, 5, n)}
	for degree := -1; degree < n; degree++ {
		ys := valuesBy(f, sample.Run(f, 3, degree+1), xs)
		for many := range n + 1 {
			for _, at := range sample.SomeChoices(n, many)[:5] {
				lists = append(lists, turned(f, ys, at))
			}
			lists = append(lists, turnedTo(ys, sample.Mixed(2, n)[:many], 0, top), turnedTo(ys, sample.Mixed(3, n)[:many], top, 0))
		}
	}
	return lists
}

// P17.1

func TestDecode(t *testing.T) {
	for _, f := range sample.Fields() {
		for _, xs := range places(f) {
			for _, ys := range values(f, xs) {
				for _, c := range borne(len(xs)) {
					wantSearched(t, f, xs, ys, c.degree, c.wrong)
				}
			}
		}
	}
}

// rows are all lists of n of the numbers.
func rows(numbers []uint64, n int) [][]uint64 {
	if n == 0 {
		return [][]uint64{nil}
	}
	var lists [][]uint64
	for _, ahead := range rows(numbers, n-1) {
		for _, a := range numbers {
			lists = append(lists, append(slices.Clone(ahead), a))
		}
	}
	return lists
}

// Where all values are few numbers, many of them lie on one polynomial or nearly so.
func TestDecodeAllOfFewValues(t *testing.T) {
	for _, f := range sample.Fields() {
		top := sample.Prime(f) - 1
		for _, xs := range [][]uint64{nil, l(0), l(6), l(0, 1), l(0, 1, 2), l(0, 1, 2, 3), l(top, 1, 0, 2, 3)} {
			for _, ys := range rows(l(0, 1, top), len(xs)) {
				for _, c := range borne(len(xs)) {
					wantSearched(t, f, xs, ys, c.degree, c.wrong)
				}
			}
		}
		for _, ys := range rows(l(0, 1), 6) {
			for _, c := range borne(6) {
				wantSearched(t, f, l(0, 1, 2, 3, 4, 5), ys, c.degree, c.wrong)
			}
		}
	}
}

func TestDecodeByHand(t *testing.T) {
	for _, f := range sample.Fields() {
		top := sample.Prime(f) - 1
		one, five := l(top), l(0, 1, 2, 3, 4)
		// Of the degree -1 the polynomial 0 alone is asked for.
		wantDecode(t, f, nil, nil, -1, 0, nil, nil, true, api.OK)
		wantDecode(t, f, one, l(0), -1, 0, nil, nil, true, api.OK)
		wantNone(t, f, one, l(top), -1, 0)
		wantDecode(t, f, l(4, 9), l(3, 0), -1, 1, nil, at(0), true, api.OK)
		wantNone(t, f, l(4, 9), l(3, 3), -1, 1)
		wantDecode(t, f, five, l(1, 0, 0, 0, top), -1, 2, nil, at(0, 4), true, api.OK)
		wantNone(t, f, five, l(1, 0, 0, 0, top), -1, 1)
		// Of the degree 0 the value that most are.
		wantDecode(t, f, one, l(top), 0, 0, l(top), nil, true, api.OK)
		wantDecode(t, f, one, l(0), 0, 0, nil, nil, true, api.OK)
		wantDecode(t, f, l(0, 1, 2), l(top, top, 0), 0, 1, l(top), at(2), true, api.OK)
		wantDecode(t, f, l(0, 1, 2), l(0, top, 0), 0, 1, nil, at(1), true, api.OK)
		wantNone(t, f, l(0, 1, 2), l(0, 1, 2), 0, 1)
		// As high as there are places: the polynomial through all values, whatever they are.
		wantDecode(t, f, l(0, 1, 2), l(0, 1, 4), 2, 0, l(0, 0, 1), nil, true, api.OK)
		wantDecode(t, f, l(0, 1, 2), l(0, 1, 2), 2, 0, l(0, 1), nil, true, api.OK)
		wantNone(t, f, l(0, 1, 2), l(0, 1, 4), 1, 0)
		// 1 and x, with the first, the last and a middle value wrong.
		wantDecode(t, f, l(0, 1, 2, 3), l(9, 2, 3, 4), 1, 1, l(1, 1), at(0), true, api.OK)
		wantDecode(t, f, l(0, 1, 2, 3), l(1, 2, 9, 4), 1, 1, l(1, 1), at(2), true, api.OK)
		wantDecode(t, f, l(3, 2, 1, 0), l(4, 3, 2, 0), 1, 1, l(1, 1), at(3), true, api.OK)
		// 1 less x, which is 0 at 1, and 2 at the greatest element.
		wantDecode(t, f, l(0, 1, top, 7, 8), l(1, 0, 2, 0, 0), 1, 1, nil, nil, false, api.OK)
		wantDecode(t, f, l(0, 1, top, 2, 8), l(1, 0, 2, top, 0), 1, 1, l(1, top), at(4), true, api.OK)
		// More could be told than is asked for.
		wantNone(t, f, five, l(9, 7, 7, 8, 7), 0, 1)
		wantDecode(t, f, five, l(9, 7, 7, 8, 7), 0, 2, l(7), at(0, 3), true, api.OK)
	}
}

// crowds are pairs for n places, many of them: the degree -1, 0 and as high as there are places, wrong of 0, of as many as the places bear, and of fewer.
func crowds(n int) []pair {
	pairs := []pair{{-1, 0}, {9, 15}}
	for _, degree := range []int{-1, 0, 1, n / 2, n - 3, n - 1} {
		pairs = append(pairs, pair{degree, (n - 1 - degree) / 2})
	}
	return pairs
}

func TestDecodeOfMany(t *testing.T) {
	for _, f := range sample.Fields() {
		for _, n := range []int{511, 512} {
			xs := sample.Unlike(f, 0, n)
			for _, c := range crowds(n) {
				p := sample.Run(f, 7, c.degree+1)
				ys := valuesBy(f, p, xs)
				wantTold(t, f, xs, ys, c.degree, c.wrong, p)
				for _, at := range sample.SomeChoices(n, c.wrong)[1:4] {
					wantTold(t, f, xs, turned(f, ys, at), c.degree, c.wrong, p)
				}
			}
		}
	}
}

// One more is wrong than is asked for, with a place to spare: another polynomial would meet at most degree of the right values and all of the wrong ones, and these are too few.
func TestDecodeOneMoreWrong(t *testing.T) {
	for _, f := range sample.Fields() {
		for _, c := range []pair{{-1, 0}, {-1, 1}, {-1, 7}, {0, 0}, {0, 1}, {0, 9}, {1, 0}, {1, 1}, {2, 6}, {9, 15}, {30, 0}, {30, 4}, {100, 205}, {509, 0}, {-1, 255}} {
			n := c.degree + 2*c.wrong + 2
			xs, p := sample.Unlike(f, 0, n), sample.Run(f, 2, c.degree+1)
			for _, at := range sample.SomeChoices(n, c.wrong+1)[:4] {
				ys := turned(f, valuesBy(f, p, xs), at)
				wantNone(t, f, xs, ys, c.degree, c.wrong)
				// The value at one of the places is mended: now they are just as many as may be.
				y, _ := poly.Eval(f, p, xs[at[0]])
				ys[at[0]] = y
				wantTold(t, f, xs, ys, c.degree, c.wrong, p)
			}
		}
	}
}

// meeting is a polynomial of at most the degree that meets p at just the last degree places. It is another one than p.
func meeting(f api.Field, p, xs []uint64, degree int) []uint64 {
	zero := l(11)
	for _, x := range xs[len(xs)-degree:] {
		zero = times(f, zero, x)
	}
	q, _ := poly.Add(f, p, zero)
	return q
}

// Where one more is wrong than the places bear, and the wrong ones lie on another polynomial that meets the right one as often as it can: that one is told.
func TestDecodeAnother(t *testing.T) {
	for _, f := range sample.Fields() {
		for _, c := range []pair{{0, 1}, {0, 8}, {1, 1}, {2, 1}, {3, 3}, {9, 15}, {20, 2}, {211, 150}} {
			n := c.degree + 2*c.wrong + 1
			xs, p := sample.Unlike(f, 0, n), sample.Run(f, 4, c.degree+1)
			q := meeting(f, p, xs, c.degree)
			ys, others := valuesBy(f, p, xs), valuesBy(f, q, xs)
			copy(ys, others[:c.wrong])
			wantTold(t, f, xs, ys, c.degree, c.wrong, p)
			ys[c.wrong] = others[c.wrong]
			wantTold(t, f, xs, ys, c.degree, c.wrong, q)
		}
	}
}

// Values of which all but wrong lie on one polynomial of a higher degree by 1, and all but wrong on another: a polynomial of the degree meets too few of either.
func TestDecodeBetweenTwoOfAHigherDegree(t *testing.T) {
	for _, f := range sample.Fields() {
		for _, c := range []pair{{-1, 1}, {-1, 6}, {0, 2}, {0, 9}, {1, 3}, {2, 4}, {5, 9}, {60, 62}} {
			n := c.degree + 2*c.wrong + 1
			xs, p := sample.Unlike(f, 0, n), sample.Run(f, 4, c.degree+2)
			q := meeting(f, p, xs, c.degree+1)
			ys := valuesBy(f, p, xs)
			copy(ys, valuesBy(f, q, xs)[:c.wrong])
			if len(offBy(f, p, xs, ys)) != c.wrong || len(offBy(f, q, xs, ys)) != c.wrong {
				t.Fatalf("field %d, %v: the values lie elsewhere", f, c)
			}
			wantNone(t, f, xs, ys, c.degree, c.wrong)
			wantDecode(t, f, xs, ys, c.degree+1, c.wrong, nil, nil, false, api.ErrShort)
		}
		// Small ones against the search, with other places where the two meet.
		for _, xs := range places(f) {
			for degree := range len(xs) {
				p := sample.Run(f, 6, degree+1)
				q := meeting(f, p, xs, degree)
				for many := range len(xs) - degree + 1 {
					ys := valuesBy(f, p, xs)
					copy(ys, valuesBy(f, q, xs)[:many])
					for _, c := range borne(len(xs)) {
						wantSearched(t, f, xs, ys, c.degree, c.wrong)
					}
				}
			}
		}
	}
}

// A polynomial of a lower degree than is asked for comes trimmed, 0 too.
func TestDecodeOfALowerDegree(t *testing.T) {
	for _, f := range sample.Fields() {
		xs := sample.Unlike(f, 0, 30)
		for _, p := range [][]uint64{nil, l(0, 0), l(1), l(sample.Prime(f) - 1), l(4, 0, 0), l(0, 1), l(0, 0, 0, 1), l(3, 1, 4, 1, 5, 9, 2, 6, 0, 0)} {
			for degree := poly.Degree(p); degree < 30; degree++ {
				wrong := (29 - degree) / 2
				for _, at := range sample.SomeChoices(30, wrong)[:4] {
					wantTold(t, f, xs, turned(f, valuesBy(f, p, xs), at), degree, wrong, p)
				}
			}
		}
	}
}

// P17.2

func TestLocator(t *testing.T) {
	for _, f := range sample.Fields() {
		for _, xs := range places(f) {
			for many := range len(xs) + 1 {
				for _, at := range sample.EveryChoice(len(xs), many) {
					product := l(1)
					for _, i := range at {
						product = times(f, product, xs[i])
					}
					wantLocator(t, f, xs, at, product, api.OK)
					slices.Reverse(at)
					wantLocator(t, f, xs, at, product, api.OK)
				}
			}
		}
	}
}

func TestLocatorIsZeroOfThePlaces(t *testing.T) {
	for _, f := range sample.Fields() {
		for _, n := range []int{1, 2, 50, 511, 512} {
			xs := sample.Unlike(f, 0, n)
			for _, many := range []int{0, 1, n / 2, n - 1, n} {
				for _, at := range sample.SomeChoices(n, many)[:4] {
					zero, _ := tree.Zero(f, chosen(xs, at))
					wantLocator(t, f, xs, at, zero, api.OK)
				}
			}
		}
	}
}

func TestLocatorByHand(t *testing.T) {
	for _, f := range sample.Fields() {
		p := sample.Prime(f)
		wantLocator(t, f, nil, nil, l(1), api.OK)
		wantLocator(t, f, l(0), nil, l(1), api.OK)
		wantLocator(t, f, l(0), at(0), l(0, 1), api.OK)
		wantLocator(t, f, l(p-1), at(0), l(1, 1), api.OK)
		wantLocator(t, f, l(0, p-1, 1), at(2), l(p-1, 1), api.OK)
		wantLocator(t, f, l(0, p-1, 1), at(2, 1), l(p-1, 0, 1), api.OK)
		wantLocator(t, f, l(0, p-1, 1), at(1, 0, 2), l(0, p-1, 0, 1), api.OK)
	}
}

// The locator of what Decode tells is 0 just where the values don't lie.
func TestLocatorOfWrongPlaces(t *testing.T) {
	for _, f := range sample.Fields() {
		xs, p := sample.Unlike(f, 0, 40), sample.Run(f, 3, 10)
		for many := range 16 {
			for _, at := range sample.SomeChoices(40, many) {
				ys := turned(f, valuesBy(f, p, xs), at)
				_, off, _, _ := Decode(f, xs, ys, 9, 15)
				locator, e := Locator(f, xs, off)
				for i, y := range valuesBy(f, locator, xs) {
					if e != api.OK || (y == 0) != slices.Contains(at, i) {
						t.Fatalf("field %d, %d wrong: the locator is %d at the place %d, %d", f, at, y, i, e)
					}
				}
			}
		}
	}
}

func TestAgree(t *testing.T) {
	for _, f := range sample.Fields() {
		for _, xs := range places(f) {
			for _, p := range sample.Polys(f) {
				right := valuesBy(f, p, xs)
				for many := range len(xs) + 1 {
					for _, at := range sample.SomeChoices(len(xs), many) {
						wantAgree(t, f, p, xs, turned(f, right, at), len(xs)-many, api.OK)
					}
				}
				for _, ys := range [][]uint64{make([]uint64, len(xs)), slices.Repeat(l(sample.Prime(f)-1), len(xs)), xs} {
					wantAgree(t, f, p, xs, ys, len(xs)-len(offBy(f, p, xs, ys)), api.OK)
				}
			}
		}
	}
}

func TestAgreeOfMany(t *testing.T) {
	for _, f := range sample.Fields() {
		for _, n := range []int{511, 512} {
			xs := sample.Unlike(f, 0, n)
			for _, p := range [][]uint64{nil, l(7), sample.Run(f, 4, 512), sample.Run(f, 4, 2049), sample.Run(f, 4, 4096), sample.Padded(l(3, 1), 4096), make([]uint64, 4096)} {
				right := valuesBy(f, p, xs)
				wantAgree(t, f, p, xs, right, n, api.OK)
				wantAgree(t, f, p, xs, turned(f, right, at(0)), n-1, api.OK)
				wantAgree(t, f, p, xs, turned(f, right, at(n-1, 0, 200)), n-3, api.OK)
				wantAgree(t, f, p, xs, turned(f, right, sample.Inputs(n)), 0, api.OK)
			}
		}
	}
}

func TestAgreeByHand(t *testing.T) {
	for _, f := range sample.Fields() {
		top := sample.Prime(f) - 1
		wantAgree(t, f, nil, nil, nil, 0, api.OK)
		wantAgree(t, f, l(5), nil, nil, 0, api.OK)
		wantAgree(t, f, nil, l(0), l(0), 1, api.OK)
		wantAgree(t, f, nil, l(0), l(top), 0, api.OK)
		wantAgree(t, f, l(top), l(top), l(top), 1, api.OK)
		wantAgree(t, f, l(1, 1, 0, 0), l(top, 0, 1), l(0, 1, 2), 3, api.OK)
		wantAgree(t, f, l(1, 1), l(top, 0, 1), l(0, 2, 2), 2, api.OK)
		// The right values at the wrong places.
		wantAgree(t, f, l(0, 1), l(1, 2, 3), l(2, 3, 1), 0, api.OK)
		wantAgree(t, f, l(0, 0, 1), l(1, 2, 3), l(1, 9, 4), 1, api.OK)
	}
}

// The examples of the chapter.

func TestExamples(t *testing.T) {
	const f = api.Small
	wantDecode(t, f, l(0, 1, 2, 3), l(1, 2, 3, 9), 1, 1, l(1, 1), at(3), true, api.OK)
	wantDecode(t, f, l(0, 1, 2, 3), l(1, 2, 5, 9), 1, 1, nil, nil, false, api.OK)
	wantDecode(t, f, l(0, 1, 2), l(1, 2, 3), 1, 1, nil, nil, false, api.ErrShort)
	wantDecode(t, f, l(0), l(7), -1, 0, nil, nil, false, api.OK)
	wantDecode(t, f, l(0, 1), l(5, 5), 1, 0, l(5), nil, true, api.OK)
	wantDecode(t, f, nil, nil, -1, 0, nil, nil, true, api.OK)
	wantLocator(t, f, l(4, 5, 6), at(1), l(2013265916, 1), api.OK)
	wantLocator(t, f, l(4), nil, l(1), api.OK)
	wantAgree(t, f, l(1, 1), l(0, 1, 2), l(1, 2, 9), 2, api.OK)
}
