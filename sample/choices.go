package sample

import (
	"math"
	"slices"

	"conclave/api"
)

// EveryChoice are all choices of so many out of n, each rising.
func EveryChoice(n, many int) [][]int {
	if many == 0 {
		return [][]int{nil}
	}
	var choices [][]int
	for last := many - 1; last < n; last++ {
		for _, ahead := range EveryChoice(last, many-1) {
			choices = append(choices, append(slices.Clone(ahead), last))
		}
	}
	return choices
}

// Mixed are the numbers below n without any order, in another one for each number from.
func Mixed(from, n int) []int {
	draws := Scattered(api.Large, n*(from+1))[n*from:]
	l := Inputs(n)
	slices.SortFunc(l, func(i, j int) int {
		if draws[i] < draws[j] {
			return -1
		}
		return 1
	})
	return l
}

// SomeChoices are the first so many out of n, the last ones, these in turn from both ends, and some without any order.
func SomeChoices(n, many int) [][]int {
	order := Inputs(n)
	choices := [][]int{order[:many:many], order[n-many:]}
	var ends []int
	for i := range n {
		ends = append(ends, []int{i / 2, n - 1 - i/2}[i%2])
	}
	choices = append(choices, ends[:many:many])
	for from := range 6 {
		choices = append(choices, Mixed(from, n)[:many])
	}
	return choices
}

// NoWorkers are numbers of which none is a worker's.
func NoWorkers(p api.Plan) []int {
	return []int{-1, -2, -p.N, -64, math.MinInt, math.MinInt + 1, p.N, p.N + 1, p.N + 64, 65, 128, 1 << 32, 1<<32 + 1, math.MaxInt - 1, math.MaxInt}
}
