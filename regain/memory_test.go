package regain

// Rule 5: what is handed in stays as it is, and what is answered is new memory; and nothing is kept from call to call.

import (
	"math"
	"slices"
	"testing"

	"conclave/api"
	"conclave/sample"
)

// kept is replies of which something is told: at the plans' ends, with liars and without.
type kept struct {
	p    api.Plan
	outs int
	l    []api.Reply
}

// keeps are of both fields; in the first ones what is handed in would be a right answer, but for its memory.
func keeps() []kept {
	var all []kept
	for _, f := range sample.Fields() {
		for _, c := range []struct{ n, k, t, e, degree, outs int }{{1, 1, 0, 0, 0, 1}, {1, 1, 0, 0, 1, 3}, {3, 2, 0, 1, 0, 1}, {3, 1, 0, 1, 7, 4}, {5, 2, 1, 1, 1, 0}, {5, 2, 1, 1, 1, 1}, {12, 2, 1, 2, 2, 3}, {64, 3, 1, 20, 2, 2}, {8, 8, 0, 0, 1, 64}} {
			p := sample.With(sample.Plan(c.n, c.k, c.t, 0, c.e, c.degree), f, 1)
			for from := range 3 {
				l := on(p, lines(p, c.outs, from), sample.Mixed(from, p.N))
				all = append(all, kept{p, c.outs, l})
				if c.e > 0 && c.outs > 0 {
					all = append(all, kept{p, c.outs, turnedInTurn(p, l, sample.Inputs(c.e)...)}, kept{p, c.outs, turnedInAll(p, l, sample.Inputs(c.e+1)...)})
				}
			}
			// Too few, one that stands twice, one that may not be.
			l := on(p, lines(p, c.outs, 1), sample.Inputs(p.N))
			all = append(all, kept{p, c.outs, l[1:]}, kept{p, c.outs, append(slices.Clone(l), l[0])}, kept{p, c.outs, append(slices.Clone(l), r(-1))}, kept{p, c.outs, nil})
		}
	}
	return all
}

// valued are the replies with other lists in the place of their values.
func valued(l []api.Reply, values [][]uint64) []api.Reply {
	l = slices.Clone(l)
	for i := range l {
		l[i].Values = values[i]
	}
	return l
}

func valuesIn(l []api.Reply) [][]uint64 {
	var values [][]uint64
	for _, r := range l {
		values = append(values, r.Values)
	}
	return values
}

func TestMemory(t *testing.T) {
	for _, c := range keeps() {
		do := func(h [][]uint64) [][]uint64 {
			l := valued(c.l, h)
			for _, r := range l {
				MayReply(c.p, c.outs, r)
			}
			result, _ := Recover(c.p, c.outs, l...)
			return slices.Concat(result.Results, result.Polys)
		}
		if wrong := sample.Apart(do, valuesIn(c.l)...); wrong != "" {
			t.Errorf("Recover(%v, %d; %s): %s", c.p, c.outs, brief(c.l), wrong)
		}
	}
}

// All replies have one and the same list of values.
func TestMemoryOfOneList(t *testing.T) {
	for _, f := range sample.Fields() {
		for _, p := range []api.Plan{sample.Plan(4, 3, 0, 0, 1, 0), sample.Plan(6, 2, 1, 0, 1, 1)} {
			p = sample.With(p, f, 1)
			for _, values := range lists(nil, l(4), l(0, 0), l(5, 0, 7)) {
				do := func(h [][]uint64) [][]uint64 {
					var all []api.Reply
					for worker := range p.N {
						all = append(all, api.Reply{Worker: worker, Values: h[0]})
					}
					result, _ := Recover(p, len(values), all...)
					return slices.Concat(result.Results, result.Polys)
				}
				if wrong := sample.Apart(do, values); wrong != "" {
					t.Errorf("Recover(%v, %v): %s", p, values, wrong)
				}
			}
		}
	}
}

// The list of replies itself, which is handed in as it stands, is neither changed nor put in another order.
func TestMemoryOfReplies(t *testing.T) {
	for _, c := range keeps() {
		do := func(h [][]api.Reply) [][]api.Reply {
			Recover(c.p, c.outs, h[0]...)
			return nil
		}
		if wrong := sample.ApartReplies(do, c.l); wrong != "" {
			t.Errorf("Recover(%v, %d; %s): %s", c.p, c.outs, brief(c.l), wrong)
		}
	}
}

// Of lists of lists no two share their memory, the room behind their ends counted.
func TestMemoryOfListsOfLists(t *testing.T) {
	for _, c := range keeps() {
		do := func(h [][][]uint64) [][][]uint64 {
			result, _ := Recover(c.p, c.outs, c.l...)
			Check(c.p, api.Result{Results: h[0], Polys: h[0]}, 0, make([]uint64, len(h[0])))
			return [][][]uint64{result.Results, result.Polys}
		}
		for _, polys := range [][][]uint64{nil, lists(nil), lists(l(1, 0), l(0)), lines(c.p, 5, 1), lists(l(math.MaxUint64))} {
			if wrong := sample.ApartBlocks(do, polys); wrong != "" {
				t.Errorf("%v, %d, %s: %s", c.p, c.outs, brief(polys), wrong)
			}
		}
	}
}

func TestMemoryOfWrong(t *testing.T) {
	for _, c := range keeps() {
		do := func(h [][]int) [][]int {
			result, _ := Recover(c.p, c.outs, c.l...)
			Check(c.p, api.Result{Wrong: h[0]}, 0, nil)
			return [][]int{result.Wrong}
		}
		if wrong := sample.Apart(do, at(2, 1, 2)); wrong != "" {
			t.Errorf("Recover(%v, %d; %s): %s", c.p, c.outs, brief(c.l), wrong)
		}
	}
}

func TestMemoryOfCheck(t *testing.T) {
	for _, f := range sample.Fields() {
		p := sample.With(sample.Plan(5, 2, 1, 0, 1, 1), f, 1)
		for _, polys := range [][][]uint64{lists(l(5, 2)), lists(nil, l(0, 0)), lines(p, 5, 2), lists(l(sample.Prime(f)), l(1)), lists(make([]uint64, 4097))} {
			handed := append(slices.Clone(polys), valuesAt(f, polys, pointOf(p, 1)))
			do := func(h [][]uint64) [][]uint64 {
				n := len(polys)
				for worker := -1; worker <= p.N; worker++ {
					Check(p, api.Result{Results: h, Polys: h[:n]}, worker, h[n])
				}
				return nil
			}
			if wrong := sample.Apart(do, handed...); wrong != "" {
				t.Errorf("Check(%v, %s): %s", p, brief(polys), wrong)
			}
		}
	}
}

// Lists without elements are lists that are nil.
func TestListsWithoutElements(t *testing.T) {
	for _, f := range sample.Fields() {
		p := sample.With(sample.Plan(2, 2, 0, 0, 0, 1), f, 1)
		for _, none := range lists(nil, l(), l(4)[:0]) {
			wantMay(t, p, 0, api.Reply{Values: none}, true)
			wantMay(t, p, 1, api.Reply{Values: none}, false)
			wantRecover(t, p, 0, replies(api.Reply{Worker: 1, Values: none}, api.Reply{Values: nil}), api.Result{Results: lists(nil, nil)}, api.OK)
			wantRecover(t, p, 1, replies(r(0, 1), api.Reply{Worker: 1, Values: none}), api.Result{}, api.ErrArg)
			wantCheck(t, p, api.Result{Polys: lists(none)}, 0, l(0), true, api.OK)
			wantCheck(t, p, api.Result{Polys: lists(none)}, 0, none, false, api.ErrArg)
			for _, polys := range [][][]uint64{nil, {}, lists(l(4))[:0]} {
				wantCheck(t, p, api.Result{Polys: polys}, 1, none, true, api.OK)
			}
		}
		for _, l := range [][]api.Reply{nil, {}, replies(r(0, 1))[:0]} {
			wantRecover(t, p, 1, l, api.Result{}, api.ErrShort)
		}
	}
}

// Again, in the other order: the same is told, also behind calls that answered an error.
func TestNothingIsKept(t *testing.T) {
	all := keeps()
	var results []api.Result
	var errors []api.Errno
	for _, c := range all {
		result, e := Recover(c.p, c.outs, c.l...)
		results, errors = append(results, result), append(errors, e)
	}
	for i, c := range slices.Backward(all) {
		wantRecover(t, c.p, c.outs, c.l, results[i], errors[i])
	}
	if !slices.Contains(errors, api.OK) || !slices.Contains(errors, api.ErrMany) || !slices.Contains(errors, api.ErrTwice) || !slices.Contains(errors, api.ErrShort) || !slices.Contains(errors, api.ErrArg) {
		t.Errorf("the errors were %v", errors)
	}
}
