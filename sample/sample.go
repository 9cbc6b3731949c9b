// Package sample holds the elements, lists, bytes, blocks, tapes, programs, plans, messages and choices of workers with which the layers' tests try their calls, and finds lists, replies, packets and programs that share memory. No layer calls it, and it calls none, so that every layer's tests may lean on it.
package sample

import (
	"math"
	"slices"

	"conclave/api"
)

func Fields() []api.Field { return []api.Field{api.Small, api.Large} }

// NoFields are numbers that stand for no field.
func NoFields() []api.Field { return []api.Field{api.NoField, 3, 255} }

// Prime is written out once more here, so that a wrong one in a layer is seen; it is 0, if there is no such field.
func Prime(f api.Field) uint64 {
	switch f {
	case api.Small:
		return 2013265921
	case api.Large:
		return 18446744069414584321
	}
	return 0
}

// Edges are the elements at which words, halves of words and the primes' shapes come to an end.
func Edges(f api.Field) []uint64 {
	p := Prime(f)
	l := []uint64{0, 1, 2, 3, 7, 31, p / 2, p/2 + 1, p - 3, p - 2, p - 1}
	for _, n := range []int{15, 16, 26, 27, 30, 31, 32, 33, 62, 63} {
		for _, a := range []uint64{1<<n - 1, 1 << n, 1<<n + 1} {
			l = append(l, a%p)
		}
	}
	l = append(l, (1<<64-1<<32)%p, (1<<32-1)<<31%p)
	slices.Sort(l)
	return slices.Compact(l)
}

// Scattered are n elements without any order, the same ones each time.
func Scattered(f api.Field, n int) []uint64 {
	l := make([]uint64, n)
	x := uint64(88172645463325252)
	for i := range l {
		x ^= x << 13
		x ^= x >> 7
		x ^= x << 17
		l[i] = x % Prime(f)
	}
	return l
}

func Elements(f api.Field) []uint64 {
	return append(Edges(f), Scattered(f, 60)...)
}

// Unlike are n elements that stand there once each: some other ones for each number from, the edges among them where that is low.
func Unlike(f api.Field, from, n int) []uint64 {
	seen := map[uint64]int{}
	for _, a := range slices.Concat(Edges(f), Scattered(f, from+2*n)) {
		if _, ok := seen[a]; !ok {
			seen[a] = len(seen)
		}
	}
	l := make([]uint64, n)
	for a, i := range seen {
		if i >= from && i < from+n {
			l[i-from] = a
		}
	}
	return l
}

// Outside are numbers that are no elements of the field.
func Outside(f api.Field) []uint64 {
	p := Prime(f)
	return []uint64{p, p + 1, math.MaxUint64}
}

func NotZero(l []uint64) []uint64 {
	return slices.DeleteFunc(slices.Clone(l), func(a uint64) bool { return a == 0 })
}

// Roomy is a list with room behind its end, and the whole of what it stands in.
func Roomy(l ...uint64) (list, whole []uint64) {
	return roomy(l, 71, 72, 73)
}

// Polys are lists as polynomials: 0 with none and with noughts alone, single elements, noughts at the front, within and at the end, and some without any order.
func Polys(f api.Field) [][]uint64 {
	top := Prime(f) - 1
	l := [][]uint64{
		nil, {}, {0}, {0, 0, 0},
		{1}, {top}, {2, 0}, {top, 0, 0},
		{0, 1}, {1, 1}, {top, 1}, {1, top}, {0, 0, 0, 5},
		{1, 0, 2, 0}, {top, top, top, top}, {1, 2, 0, 0, 3},
		Edges(f),
	}
	rest := Scattered(f, 200)
	for _, n := range []int{1, 2, 3, 5, 8, 17, 40} {
		l = append(l, rest[:n:n])
		rest = rest[n:]
	}
	return l
}

// Power is x to the power n, as a list of n + 1 elements.
func Power(n int) []uint64 {
	return append(make([]uint64, n), 1)
}
