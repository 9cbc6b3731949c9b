package sample

import "slices"

// scribble writes over a list, the room behind its end too.
func scribble(l []uint64) {
	for i := range l[:cap(l)] {
		l[:cap(l)][i] = 9999
	}
}

func copies(lists [][]uint64) [][]uint64 {
	l := make([][]uint64, len(lists))
	for i := range lists {
		l[i] = slices.Clone(lists[i])
	}
	return l
}

func same(a, b [][]uint64) bool {
	return slices.EqualFunc(a, b, slices.Equal[[]uint64])
}

// Apart calls do twice with roomy copies of the lists, and tells what is amiss: whether it changed them, whether any two of what was handed in and answered share memory, found by writing over one and looking at the others. It is empty, if nothing is.
func Apart(do func(lists [][]uint64) [][]uint64, lists ...[]uint64) string {
	handed, whole := make([][]uint64, len(lists)), make([][]uint64, len(lists))
	for i := range lists {
		handed[i], whole[i] = Roomy(lists[i]...)
	}
	before := copies(whole)
	answers := append(do(handed), do(handed)...)
	if !same(whole, before) {
		return "what was handed in is changed"
	}
	for i := range answers {
		others := copies(answers)
		scribble(answers[i])
		others[i] = answers[i]
		if !same(whole, before) {
			return "an answer and an argument share memory"
		}
		if !same(answers, others) {
			return "two answers share memory"
		}
	}
	after := copies(answers)
	for i := range whole {
		scribble(whole[i])
	}
	if !same(answers, after) {
		return "an argument and an answer share memory"
	}
	return ""
}
