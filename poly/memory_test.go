package poly

// Rule 5: what is handed in stays as it is, and what is answered is new memory.

import (
	"slices"
	"testing"

	"conclave/api"
	"conclave/sample"
)

// all are all calls that answer lists, as ones of two lists.
func all() map[string]func(f api.Field, p, q []uint64) [][]uint64 {
	every := map[string]func(f api.Field, p, q []uint64) [][]uint64{
		"Trim": func(_ api.Field, p, _ []uint64) [][]uint64 { return [][]uint64{Trim(p)} },
		"Scale": func(f api.Field, p, q []uint64) [][]uint64 {
			if len(p) == 0 {
				return nil
			}
			x, _ := Scale(f, p[0], q)
			return [][]uint64{x}
		},
	}
	for what, do := range calls() {
		every[what] = func(f api.Field, p, q []uint64) [][]uint64 {
			lists, _ := do(f, p, q)
			return lists
		}
	}
	return every
}

// scribble writes over a list, the room behind its end too.
func scribble(p []uint64) {
	for i := range p[:cap(p)] {
		p[:cap(p)][i] = 9999
	}
}

func copies(lists [][]uint64) [][]uint64 {
	l := make([][]uint64, len(lists))
	for i := range lists {
		l[i] = slices.Clone(lists[i])
	}
	return l
}

func same(a, b [][]uint64) bool {
	return slices.EqualFunc(a, b, slices.Equal[[]uint64])
}

// apart calls do twice, and sees to it that neither arguments nor answers change as other lists are written over.
func apart(t *testing.T, what string, do func(f api.Field, p, q []uint64) [][]uint64, f api.Field, p, q, wholeP, wholeQ []uint64) {
	t.Helper()
	handed := [][]uint64{wholeP, wholeQ}
	before := copies(handed)
	lists := append(do(f, p, q), do(f, p, q)...)
	if !same(handed, before) {
		t.Errorf("%s(%d, %s, %s) changed what was handed in", what, f, brief(p), brief(q))
	}
	for i := range lists {
		answers := copies(lists)
		scribble(lists[i])
		answers[i] = lists[i]
		if !same(handed, before) {
			t.Errorf("%s(%d, %s, %s): its answer and an argument share memory", what, f, brief(p), brief(q))
		}
		if !same(lists, answers) {
			t.Errorf("%s(%d, %s, %s): two lists share memory", what, f, brief(p), brief(q))
		}
	}
	answers := copies(lists)
	scribble(wholeP)
	scribble(wholeQ)
	if !same(lists, answers) {
		t.Errorf("%s(%d, %s, %s): an argument and its answer share memory", what, f, brief(before[0]), brief(before[1]))
	}
}

func TestMemory(t *testing.T) {
	for _, f := range sample.Fields() {
		// An argument would be a right answer of many of these, but for its memory.
		lists := [][]uint64{nil, l(0), l(1), l(5), l(1, 0), l(0, 1), l(1, 2, 3), l(1, 2, 3, 0, 0), scattered(f, 1, 20), l(sample.Prime(f)), sample.Power(4096)}
		for what, do := range all() {
			for _, a := range lists {
				for _, b := range lists {
					p, wholeP := sample.Roomy(a...)
					q, wholeQ := sample.Roomy(b...)
					apart(t, what, do, f, p, q, wholeP, wholeQ)
				}
				p, whole := sample.Roomy(a...)
				apart(t, what, do, f, p, p, whole, whole)
				p, whole = sample.Roomy(a...)
				apart(t, what, do, f, p, p[:len(p)/2], whole, whole)
			}
		}
	}
}

func TestValuesLeaveTheListAsItIs(t *testing.T) {
	for _, f := range sample.Fields() {
		for _, a := range append(sample.Polys(f), l(sample.Prime(f)), sample.Power(4096)) {
			p, whole := sample.Roomy(a...)
			before := slices.Clone(whole)
			Eval(f, p, 3)
			Degree(p)
			if !slices.Equal(whole, before) {
				t.Errorf("field %d: %s became %s", f, brief(before), brief(whole))
			}
		}
	}
}
