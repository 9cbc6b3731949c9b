package sample

import (
	"math"
	"slices"

	"conclave/api"
)

// Blocks are n lists of width elements each, other ones for each number from.
func Blocks(f api.Field, from, n, width int) [][]uint64 {
	draws := Scattered(f, from+n*width)[from:]
	lists := make([][]uint64, n)
	for i := range lists {
		lists[i] = slices.Clone(draws[i*width : (i+1)*width])
	}
	return lists
}

// EdgeBlocks are n lists of the elements at which words and primes end, in turn, beginning with another one for each number from.
func EdgeBlocks(f api.Field, from, n, width int) [][]uint64 {
	edges := Edges(f)
	lists := make([][]uint64, n)
	for i := range lists {
		for place := range width {
			lists[i] = append(lists[i], edges[(from+7*i+place)%len(edges)])
		}
	}
	return lists
}

// EqualBlocks are n lists of width elements, all of which are a.
func EqualBlocks(a uint64, n, width int) [][]uint64 {
	lists := make([][]uint64, n)
	for i := range lists {
		lists[i] = slices.Repeat([]uint64{a}, width)
	}
	return lists
}

// Put is the blocks with a at one place of one of them.
func Put(blocks [][]uint64, block, place int, a uint64) [][]uint64 {
	blocks = slices.Clone(blocks)
	blocks[block] = slices.Clone(blocks[block])
	blocks[block][place] = a
	return blocks
}

// Resized is the first n blocks, with more of them behind where there are too few.
func Resized(p api.Plan, blocks [][]uint64, n int) [][]uint64 {
	more := max(0, n-len(blocks))
	return slices.Concat(blocks, Blocks(p.Field, 5, more, p.Width))[:n]
}

// FaultyBlocks are blocks with all kinds of faults, and ahead of them blocks with none, where there should be n of a plan's Width.
func FaultyBlocks(p api.Plan, n int) [][][]uint64 {
	fine := Blocks(p.Field, 4, n, p.Width)
	prime := Prime(p.Field)
	short, long := slices.Clone(fine), slices.Clone(fine)
	for i := range fine {
		short[i], long[i] = fine[i][1:], append(slices.Clone(fine[i]), 0)
	}
	all := [][][]uint64{fine, short, long, nil, append(slices.Clone(fine), fine...), append(slices.Clone(fine), nil), append(slices.Clone(fine), []uint64{prime}), append(slices.Clone(long), []uint64{0, prime})}
	if n > 0 {
		all = append(all, fine[1:], Put(fine, n-1, p.Width-1, prime), Put(fine, 0, 0, math.MaxUint64), Put(long, 0, p.Width, prime), Put(fine, n-1, 0, prime)[n-1:])
	}
	return all
}
