package sample

import (
	"bytes"
	"slices"

	"conclave/api"
)

// Item is what stands in the lists of numbers that calls are handed and answer.
type Item interface{ byte | int | uint64 }

// other is another number, for each number one of its own.
func other[T Item](a T) T { return a ^ 85 }

// otherStep is another step, also where all of it is 0.
func otherStep(op api.Op) api.Op {
	return api.Op{Kind: op.Kind ^ 85, A: other(op.A), B: other(op.B), C: other(op.C)}
}

// roomy is a list with room behind its end, and the whole of what it stands in.
func roomy[T any](l []T, room ...T) (list, whole []T) {
	whole = append(slices.Clone(l), room...)
	return whole[:len(l)], whole
}

// scribble writes something else over all of a list, the room behind its end too.
func scribble[T any](l []T, other func(T) T) {
	for i, a := range l[:cap(l)] {
		l[:cap(l)][i] = other(a)
	}
}

// Scribble writes another number over each of a list, the room behind its end too.
func Scribble[T Item](l []T) { scribble(l, other[T]) }

// ScribbleLists writes another number over each of some lists, and another list over each of these, the room behind their ends too.
func ScribbleLists[T Item](lists [][]T) {
	for _, l := range lists {
		Scribble(l)
	}
	scribble(lists, func([]T) []T { return []T{77} })
}

func copies[T any](lists [][]T) [][]T {
	l := make([][]T, len(lists))
	for i := range lists {
		l[i] = slices.Clone(lists[i])
	}
	return l
}

// kind is what lists are made of: whether two of its items are the same, and another one than a given one.
type kind[T any] struct {
	equal func(a, b T) bool
	other func(a T) T
}

func kindOf[T comparable](other func(a T) T) kind[T] {
	return kind[T]{func(a, b T) bool { return a == b }, other}
}

func (k kind[T]) same(a, b [][]T) bool {
	return slices.EqualFunc(a, b, func(a, b []T) bool { return slices.EqualFunc(a, b, k.equal) })
}

// Apart calls do twice with roomy copies of the lists, and tells what is amiss: whether it changed them, whether any two of what was handed in and answered share memory, found by writing over one and looking at the others. It is empty, if nothing is.
func Apart[T Item](do func(lists [][]T) [][]T, lists ...[]T) string {
	return apart(kindOf(other[T]), do, lists)
}

// ApartBlocks is Apart of lists of blocks: of the lists, not of the blocks in them.
func ApartBlocks(do func(lists [][][]uint64) [][][]uint64, lists ...[][]uint64) string {
	longer := func(block []uint64) []uint64 { return append(slices.Clone(block), 85) }
	return apart(kind[[]uint64]{slices.Equal[[]uint64], longer}, do, lists)
}

// ApartReplies is Apart of lists of replies: of the lists, not of the Values in them.
func ApartReplies(do func(lists [][]api.Reply) [][]api.Reply, lists ...[]api.Reply) string {
	equal := func(a, b api.Reply) bool { return a.Worker == b.Worker && slices.Equal(a.Values, b.Values) }
	longer := func(r api.Reply) api.Reply {
		return api.Reply{Worker: other(r.Worker), Values: append(slices.Clone(r.Values), 85)}
	}
	return apart(kind[api.Reply]{equal, longer}, do, lists)
}

// ApartPackets is Apart of lists of packets: of the lists, not of the Bytes in them.
func ApartPackets(do func(lists [][]api.Packet) [][]api.Packet, lists ...[]api.Packet) string {
	equal := func(a, b api.Packet) bool { return a.From == b.From && a.To == b.To && bytes.Equal(a.Bytes, b.Bytes) }
	longer := func(p api.Packet) api.Packet {
		return api.Packet{From: other(p.From), To: other(p.To), Bytes: append(slices.Clone(p.Bytes), 85)}
	}
	return apart(kind[api.Packet]{equal, longer}, do, lists)
}

func apart[T any](k kind[T], do func(lists [][]T) [][]T, lists [][]T) string {
	handed, whole := make([][]T, len(lists)), make([][]T, len(lists))
	for i := range lists {
		var none T
		handed[i], whole[i] = roomy(lists[i], k.other(none), none, k.other(none))
	}
	before := copies(whole)
	answers := append(do(handed), do(handed)...)
	if !k.same(whole, before) {
		return "what was handed in is changed"
	}
	for i := range answers {
		others := copies(answers)
		scribble(answers[i], k.other)
		others[i] = answers[i]
		if !k.same(whole, before) {
			return "an answer and an argument share memory"
		}
		if !k.same(answers, others) {
			return "two answers share memory"
		}
	}
	after := copies(answers)
	for i := range whole {
		scribble(whole[i], k.other)
	}
	if !k.same(answers, after) {
		return "an argument and an answer share memory"
	}
	return ""
}

// apartIn is apart of one list of each program.
func apartIn[T comparable](other func(T) T, list func(p *api.Prog) *[]T, do func(progs []api.Prog) []api.Prog, progs []api.Prog) string {
	lists := make([][]T, len(progs))
	for i := range progs {
		lists[i] = *list(&progs[i])
	}
	return apart(kindOf(other), func(lists [][]T) (answers [][]T) {
		handed := slices.Clone(progs)
		for i := range handed {
			*list(&handed[i]) = lists[i]
		}
		for _, p := range do(handed) {
			answers = append(answers, *list(&p))
		}
		return answers
	}, lists)
}

// ApartProgs is Apart of programs: of their steps, and of their Outs.
func ApartProgs(do func(progs []api.Prog) []api.Prog, progs ...api.Prog) string {
	if wrong := apartIn(otherStep, func(p *api.Prog) *[]api.Op { return &p.Ops }, do, progs); wrong != "" {
		return "steps: " + wrong
	}
	if wrong := apartIn(other[int], func(p *api.Prog) *[]int { return &p.Outs }, do, progs); wrong != "" {
		return "Outs: " + wrong
	}
	return ""
}
