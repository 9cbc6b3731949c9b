package sample

import (
	"math"
	"slices"

	"conclave/api"
)

// TapeEdges are the numbers of 64 bits at which draws begin anew: the ones next to multiples of both primes, the least and the greatest ones, and those at which words and halves of words end.
func TapeEdges() []uint64 {
	l := []uint64{0, 1, 2, 1<<32 - 1, 1 << 32, 1<<32 + 1, 1<<63 - 1, 1 << 63, 1<<63 + 1, math.MaxUint64 - 1, math.MaxUint64}
	for _, f := range Fields() {
		p := Prime(f)
		for _, n := range []uint64{1, 2, 3, 1 << 16, 1 << 31, math.MaxUint64 / p} {
			if n <= math.MaxUint64/p {
				l = append(l, n*p-1, n*p, n*p+1)
			}
		}
	}
	slices.Sort(l)
	return slices.Compact(l)
}

// Tape is n numbers of which draws are taken, in turn edges and ones without any order: other ones for each number from.
func Tape(from, n int) []uint64 {
	edges, l := TapeEdges(), Scattered(api.Large, from+n)[from:]
	for i := range l {
		if (from+i)%2 == 0 {
			l[i] = edges[(from+i)/2%len(edges)]
		}
	}
	return l
}
