package sample

import (
	"slices"
	"strconv"
	"strings"

	"conclave/api"
)

// Brief tells a list that may be long.
func Brief(l []uint64) string {
	var b strings.Builder
	for i, a := range l {
		if i == 12 {
			b.WriteString(".. ")
			break
		}
		b.WriteString(strconv.FormatUint(a, 10) + " ")
	}
	return "(" + b.String() + "of " + strconv.Itoa(len(l)) + ")"
}

// Run has n elements that begin at another place for each number from, and do not end with a nought.
func Run(f api.Field, from, n int) []uint64 {
	l := slices.Clone(Scattered(f, from+n)[from:])
	if n > 0 && l[n-1] == 0 {
		l[n-1] = 1
	}
	return l
}

// Padded is l with noughts behind it, n elements in all.
func Padded(l []uint64, n int) []uint64 {
	return append(slices.Clone(l), make([]uint64, n-len(l))...)
}

// Faulty are lists that are no lists of elements, short ones and ones past all limits.
func Faulty(f api.Field) [][]uint64 {
	var lists [][]uint64
	for _, a := range Outside(f) {
		lists = append(lists, [][]uint64{{a}, {a, 1, 2}, {1, a, 2}, {1, 2, a}, {a, 0}, {0, a}, {a, a}}...)
		for _, at := range []int{0, 2047, 2048, 4095, 4096} {
			long := make([]uint64, at+3)
			long[at] = a
			lists = append(lists, long, Padded(long, 5000))
		}
	}
	return lists
}

// TooLong are lists of more than most elements, noughts at their end or not.
func TooLong(f api.Field, most int) [][]uint64 {
	return [][]uint64{make([]uint64, most+1), Padded([]uint64{3}, most+1), Power(most), Run(f, 2, most+1), make([]uint64, 2*most), Run(f, 2, 9000)}
}
