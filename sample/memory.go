package sample

import "slices"

// Item is what stands in the lists that calls are handed and answer.
type Item interface{ byte | int | uint64 }

// roomy is a list with room behind its end, and the whole of what it stands in.
func roomy[T Item](l []T) (list, whole []T) {
	whole = append(slices.Clone(l), 71, 72, 73)
	return whole[:len(l)], whole
}

// scribble writes something else over all of a list, the room behind its end too.
func scribble[T Item](l []T) {
	for i := range l[:cap(l)] {
		l[:cap(l)][i] ^= 85
	}
}

func copies[T Item](lists [][]T) [][]T {
	l := make([][]T, len(lists))
	for i := range lists {
		l[i] = slices.Clone(lists[i])
	}
	return l
}

func same[T Item](a, b [][]T) bool {
	return slices.EqualFunc(a, b, slices.Equal[[]T])
}

// Apart calls do twice with roomy copies of the lists, and tells what is amiss: whether it changed them, whether any two of what was handed in and answered share memory, found by writing over one and looking at the others. It is empty, if nothing is.
func Apart[T Item](do func(lists [][]T) [][]T, lists ...[]T) string {
	handed, whole := make([][]T, len(lists)), make([][]T, len(lists))
	for i := range lists {
		handed[i], whole[i] = roomy(lists[i])
	}
	before := copies(whole)
	answers := append(do(handed), do(handed)...)
	if !same(whole, before) {
		return "what was handed in is changed"
	}
	for i := range answers {
		others := copies(answers)
		scribble(answers[i])
		others[i] = answers[i]
		if !same(whole, before) {
			return "an answer and an argument share memory"
		}
		if !same(answers, others) {
			return "two answers share memory"
		}
	}
	after := copies(answers)
	for i := range whole {
		scribble(whole[i])
	}
	if !same(answers, after) {
		return "an argument and an answer share memory"
	}
	return ""
}
