package locate

// P17.3: what follows.

import (
	"slices"
	"testing"

	"conclave/api"
	"conclave/poly"
	"conclave/sample"
)

// whatever are the values with all kinds of others at some places: 0 and the greatest element, ones of no order, another polynomial's, those of the places beside, and, at every second of them, the very same.
func whatever(f api.Field, ys, xs []uint64, at []int) [][]uint64 {
	n, top := len(xs), sample.Prime(f)-1
	next := append(slices.Clone(ys[min(1, n):]), ys[:min(1, n)]...)
	var lists [][]uint64
	for _, others := range [][]uint64{make([]uint64, n), slices.Repeat(l(top), n), sample.Run(f, 21, n), valuesBy(f, l(1, 2), xs), next} {
		all, some := slices.Clone(ys), slices.Clone(ys)
		for k, i := range at {
			all[i] = others[i]
			if k%2 == 0 {
				some[i] = others[i]
			}
		}
		lists = append(lists, all, some)
	}
	return lists
}

// Of a polynomial's values any so many are turned into whatever else: just that polynomial is told, and those that differ.
func TestTheOthersAreWhateverTheyAre(t *testing.T) {
	for _, f := range sample.Fields() {
		for _, xs := range places(f) {
			for _, c := range borne(len(xs)) {
				for many := range c.wrong + 1 {
					for _, p := range [][]uint64{sample.Run(f, 8, c.degree+1), make([]uint64, c.degree+1), slices.Repeat(l(1), c.degree+1)} {
						ys := valuesBy(f, p, xs)
						for _, at := range sample.EveryChoice(len(xs), many) {
							for _, ys := range whatever(f, ys, xs, at) {
								wantTold(t, f, xs, ys, c.degree, c.wrong, p)
							}
						}
					}
				}
			}
		}
	}
}

func TestTheOthersOfManyAreWhateverTheyAre(t *testing.T) {
	for _, f := range sample.Fields() {
		for _, c := range []pair{{-1, 32}, {0, 31}, {3, 30}, {9, 15}, {10, 26}, {40, 11}, {62, 0}} {
			xs, p := sample.Unlike(f, 0, 64), sample.Run(f, 8, c.degree+1)
			ys := valuesBy(f, p, xs)
			for _, at := range sample.SomeChoices(64, c.wrong)[:6] {
				for _, ys := range whatever(f, ys, xs, at) {
					wantTold(t, f, xs, ys, c.degree, c.wrong, p)
				}
			}
		}
		xs, p := sample.Unlike(f, 0, 512), sample.Run(f, 8, 101)
		ys := valuesBy(f, p, xs)
		for _, ys := range whatever(f, ys, xs, sample.Mixed(2, 512)[:205]) {
			wantTold(t, f, xs, ys, 100, 205, p)
		}
	}
}

// Whatever the values are: what is told has as many of them on it as there are places, less wrong, or more.
func TestWhatIsToldHasMostValues(t *testing.T) {
	for _, f := range sample.Fields() {
		for _, xs := range append(places(f), sample.Unlike(f, 0, 10)) {
			for _, ys := range values(f, xs) {
				for _, c := range borne(len(xs)) {
					p, at, ok, e := Decode(f, xs, ys, c.degree, c.wrong)
					if !ok {
						continue
					}
					on, _ := Agree(f, p, xs, ys)
					if e != api.OK || on < len(xs)-c.wrong || on != len(xs)-len(at) || poly.Degree(p) > c.degree || len(p) != poly.Degree(p)+1 {
						t.Errorf("field %d, %s, %s, %v: %s, %d, on which %d lie", f, sample.Brief(xs), sample.Brief(ys), c, sample.Brief(p), at, on)
					}
				}
			}
		}
	}
}

func without(list []uint64, i int) []uint64 {
	return slices.Delete(slices.Clone(list), i, i+1)
}

// Places whose values lie on the polynomial are taken away one after another, from each end and from the middle: the same one is told till there are too few of them.
func TestWithoutSomeOfThePlaces(t *testing.T) {
	for _, f := range sample.Fields() {
		for _, c := range []pair{{-1, 0}, {-1, 3}, {0, 0}, {0, 2}, {1, 1}, {2, 4}, {5, 0}, {9, 3}} {
			all, p := sample.Unlike(f, 0, 30), sample.Run(f, 9, c.degree+1)
			for _, at := range sample.SomeChoices(30, c.wrong)[:4] {
				for _, which := range []func(right []int) int{
					func(right []int) int { return right[0] },
					func(right []int) int { return right[len(right)/2] },
					func(right []int) int { return right[len(right)-1] },
				} {
					xs, ys := all, turned(f, valuesBy(f, p, all), at)
					for len(xs) > c.degree+2*c.wrong+1 {
						wantTold(t, f, xs, ys, c.degree, c.wrong, p)
						i := which(rightBy(f, p, xs, ys))
						xs, ys = without(xs, i), without(ys, i)
					}
					wantTold(t, f, xs, ys, c.degree, c.wrong, p)
					if right := rightBy(f, p, xs, ys); len(right) > 0 {
						wantDecode(t, f, without(xs, right[0]), without(ys, right[0]), c.degree, c.wrong, nil, nil, false, api.ErrShort)
					}
				}
			}
		}
	}
}

// rightBy are the numbers of the places whose values lie on p.
func rightBy(f api.Field, p, xs, ys []uint64) []int {
	off := offBy(f, p, xs, ys)
	return slices.DeleteFunc(sample.Inputs(len(xs)), func(i int) bool { return slices.Contains(off, i) })
}

// Any one of these places alone, and what is told of all values that can be told of.
func TestWithoutOneOfThePlaces(t *testing.T) {
	for _, f := range sample.Fields() {
		for _, xs := range places(f) {
			for _, ys := range values(f, xs) {
				for _, c := range borne(len(xs) - 1) {
					p, _, ok, _ := Decode(f, xs, ys, c.degree, c.wrong)
					if !ok {
						continue
					}
					for _, i := range rightBy(f, p, xs, ys) {
						wantTold(t, f, without(xs, i), without(ys, i), c.degree, c.wrong, p)
					}
				}
			}
		}
	}
}

// In whatever order the places stand, the same polynomial is told.
func TestInAnyOrder(t *testing.T) {
	for _, f := range sample.Fields() {
		all, p := sample.Unlike(f, 0, 40), sample.Run(f, 5, 10)
		ys := turned(f, valuesBy(f, p, all), sample.Mixed(1, 40)[:15])
		for from := range 10 {
			order := sample.Mixed(from, 40)
			wantTold(t, f, chosen(all, order), chosen(ys, order), 9, 15, p)
		}
	}
}
