package regain

// P18.1 to P18.3: the errors, which of them comes first, and what stands beside them.

import (
	"math"
	"slices"
	"testing"

	"conclave/api"
	"conclave/plan"
	"conclave/sample"
)

// input is all that may be handed in; a call takes what it has a place for.
type input struct {
	p      api.Plan
	outs   int
	l      []api.Reply
	polys  [][]uint64
	worker int
	values []uint64
}

// By the words of the chapter.

// recoverBy is the first error that Recover has, but ErrMany.
func recoverBy(in input) api.Errno {
	if !plan.May(in.p) || in.outs < 0 || in.outs > 64 {
		return api.ErrArg
	}
	var workers []int
	for _, r := range in.l {
		if !mayBy(in.p, in.outs, r) {
			return api.ErrArg
		}
		workers = append(workers, r.Worker)
	}
	slices.Sort(workers)
	if len(slices.Compact(workers)) < len(in.l) {
		return api.ErrTwice
	}
	if len(in.l) < needed(in.p) {
		return api.ErrShort
	}
	return api.OK
}

func checkErrorBy(in input) api.Errno {
	prime := sample.Prime(in.p.Field)
	outside := func(l []uint64) bool { return slices.ContainsFunc(l, func(a uint64) bool { return a >= prime }) }
	wrong := func(l []uint64) bool { return len(l) > 4096 || outside(l) }
	if !plan.May(in.p) || in.worker < 0 || in.worker >= in.p.N || len(in.values) != len(in.polys) || outside(in.values) || slices.ContainsFunc(in.polys, wrong) {
		return api.ErrArg
	}
	return api.OK
}

// told are the errors of both calls.
type told struct{ recovered, checked api.Errno }

// wantErrors has the calls answer the errors by the words, and nothing beside one; it tells them. Where Recover has none of these, it may have ErrMany.
func wantErrors(t *testing.T, in input) told {
	t.Helper()
	want := told{recoverBy(in), checkErrorBy(in)}
	result, e := Recover(in.p, in.outs, in.l...)
	if e == api.ErrMany && want.recovered == api.OK {
		want.recovered = e
	}
	if e != want.recovered || e != api.OK && !sameResult(result, api.Result{}) {
		t.Errorf("Recover(%v, %d; %s): %d, not %d, and beside it %s", in.p, in.outs, brief(in.l), e, want.recovered, brief(result))
	}
	right, e := Check(in.p, api.Result{Polys: in.polys}, in.worker, in.values)
	if e != want.checked || e != api.OK && right {
		t.Errorf("Check(%v, %s, %d, %s): %d, not %d, and beside it %v", in.p, brief(in.polys), in.worker, sample.Brief(in.values), e, want.checked, right)
	}
	for _, r := range in.l {
		wantMay(t, in.p, in.outs, r, mayBy(in.p, in.outs, r))
	}
	return want
}

// want has the calls answer just these errors.
func want(t *testing.T, in input, recovered, checked api.Errno) {
	t.Helper()
	if got := wantErrors(t, in); got != (told{recovered, checked}) {
		t.Errorf("%v, %d, %s, %s, %d, %s: %v, not %d, %d", in.p, in.outs, brief(in.l), brief(in.polys), in.worker, sample.Brief(in.values), got, recovered, checked)
	}
}

// good is what a plan takes, as far as it has enough workers: with it nothing is wrong.
func good(p api.Plan, outs int) input {
	polys := lines(p, outs, 2)
	return input{p, outs, on(p, polys, sample.Mixed(1, p.N)), polys, p.N / 2, valuesAt(p.Field, polys, pointOf(p, p.N/2))}
}

// ordinary are plans with and without pads, with an E and without, some of which need all workers' replies.
func ordinary() []api.Plan {
	var plans []api.Plan
	for _, f := range sample.Fields() {
		for _, p := range []api.Plan{sample.Plan(1, 1, 0, 0, 0, 3), sample.Plan(5, 2, 1, 0, 1, 1), sample.Plan(6, 2, 1, 0, 1, 1), sample.Plan(4, 3, 0, 0, 0, 1), sample.Plan(12, 2, 2, 3, 2, 2), sample.Plan(9, 1, 0, 0, 3, 1024)} {
			plans = append(plans, sample.With(p, f, 2))
		}
	}
	return plans
}

func TestNothingIsWrong(t *testing.T) {
	for _, p := range append(ordinary(), many()...) {
		for _, outs := range []int{0, 1, 2, 64} {
			want(t, good(p, outs), api.OK, api.OK)
		}
	}
}

// A plan that may not be, whatever is handed in with it, nothing at all too.
func TestNoPlan(t *testing.T) {
	for _, p := range sample.NoPlans() {
		for _, in := range []input{{}, {outs: 1}, {outs: -1, worker: -1}, good(sample.Plan(5, 2, 1, 0, 1, 1), 1), good(sample.Plan(1, 1, 0, 0, 0, 0), 0), good(sample.Plan(64, 2, 1, 0, 1, 1), 2), {outs: 1, l: replies(r(0, 1), r(0, 1))}} {
			in.p = p
			want(t, in, api.ErrArg, api.ErrArg)
		}
	}
}

// The numbers next to those that may be, one at a time, with all else right.
func TestNoPlanByHand(t *testing.T) {
	for _, f := range sample.Fields() {
		p := sample.With(sample.Plan(12, 3, 1, 0, 2, 2), f, 2)
		for i, wrong := range [][]int{{0, -1, 65}, {0, -1, 64, 65}, {-1, 62, 63}, {-1, 65}, {-1, 65}, {-1, 1025}, {0, -1, 65}} {
			for _, n := range append(wrong, math.MinInt, math.MaxInt) {
				in := good(p, 2)
				*sample.PlanNumbers(&in.p)[i] = n
				want(t, in, api.ErrArg, api.ErrArg)
			}
		}
		// Numbers whose sums would wrap to ones that may be.
		for _, bad := range []api.Plan{sample.Plan(12, math.MaxInt, math.MinInt, 0, 0, 1), sample.Plan(12, math.MinInt, math.MinInt, 0, 0, 1), sample.Plan(12, -2, 4, 0, 0, 1), sample.Plan(12, 4, -2, 0, 0, 1), sample.Plan(12, 3, 1, 0, math.MinInt, 2)} {
			in := good(p, 2)
			in.p = sample.With(bad, f, 1)
			want(t, in, api.ErrArg, api.ErrArg)
		}
	}
}

func TestNoField(t *testing.T) {
	for f := range 256 {
		in := good(sample.Plan(6, 2, 1, 0, 1, 1), 1)
		in.p.Field = api.Field(f)
		if f == int(api.Large) {
			// Elements of Small are ones of Large, too, but lie elsewhere there.
			wantErrors(t, in)
			continue
		}
		e := api.ErrArg
		if f == int(api.Small) {
			e = api.OK
		}
		want(t, in, e, e)
	}
}

// Outs below 0 and above 64, also where there is no reply to be asked, or where there are as many values.
func TestOuts(t *testing.T) {
	for _, p := range ordinary() {
		for _, outs := range []int{math.MinInt, -65, -2, -1, 65, 66, 256, 4096, math.MaxInt} {
			for _, in := range []input{good(p, 0), good(p, 1), good(p, 64), {p: p}, {p: p, l: replies(r(0))}} {
				in.outs = outs
				want(t, in, api.ErrArg, checkErrorBy(in))
			}
			if outs > 0 && outs < 300 {
				want(t, good(p, outs), api.ErrArg, api.OK)
			}
		}
		for _, outs := range []int{0, 1, 63, 64} {
			want(t, input{p: p, outs: outs}, api.ErrShort, api.OK)
		}
		// Other outs than there are values.
		for _, outs := range []int{0, 1, 2, 4, 64} {
			in := good(p, 3)
			in.outs = outs
			want(t, in, api.ErrArg, api.OK)
		}
	}
}

// with is the replies with another one at a place.
func with(l []api.Reply, i int, r api.Reply) []api.Reply {
	l = slices.Clone(l)
	l[i] = r
	return l
}

// faultyReplies are replies that may not be, each with one fault alone, where outs is above 0.
func faultyReplies(p api.Plan, outs int) []api.Reply {
	fine := sample.Run(p.Field, 3, outs)
	var l []api.Reply
	for _, worker := range sample.NoWorkers(p) {
		l = append(l, r(worker, fine...))
	}
	for _, n := range []int{0, outs - 1, outs + 1, 2 * outs, 65, 4096, 4097} {
		if n != outs {
			l = append(l, r(0, sample.Run(p.Field, 3, n)...))
		}
	}
	for _, a := range sample.Outside(p.Field) {
		for i := range outs {
			l = append(l, r(p.N-1, sample.Put(lists(fine), 0, i, a)[0]...))
		}
	}
	return l
}

// At each place among others, in the place of one, alone, and behind ones that stand twice or are too few.
func TestRepliesThatMayNotBe(t *testing.T) {
	for _, p := range ordinary() {
		for _, outs := range []int{1, 3, 64} {
			fine := good(p, outs)
			for _, bad := range faultyReplies(p, outs) {
				in := fine
				for _, i := range slices.Compact(at(0, p.N/2, p.N-1)) {
					in.l = with(fine.l, i, bad)
					want(t, in, api.ErrArg, api.OK)
					in.l = slices.Insert(slices.Clone(fine.l), i, bad)
					want(t, in, api.ErrArg, api.OK)
				}
				for _, l := range [][]api.Reply{replies(bad), replies(bad, bad), append(slices.Clone(fine.l), bad), append(slices.Repeat(fine.l[:1], 3), bad), replies(fine.l[0], bad), append(replies(bad), slices.Repeat(fine.l, 2)...)} {
					in.l = l
					want(t, in, api.ErrArg, api.OK)
				}
			}
		}
	}
}

// Two replies of one worker, the same or not, wherever they stand, among few and among enough, and more than there are workers.
func TestTwice(t *testing.T) {
	for _, p := range ordinary() {
		for _, outs := range []int{0, 1, 2} {
			fine := good(p, outs)
			in := fine
			for i := range p.N {
				again := api.Reply{Worker: fine.l[i].Worker, Values: sample.Run(p.Field, 40, outs)}
				for _, double := range replies(fine.l[i], again) {
					for _, place := range slices.Compact(at(0, p.N/2, p.N)) {
						in.l = slices.Insert(slices.Clone(fine.l), place, double)
						want(t, in, api.ErrTwice, api.OK)
					}
					if i > 0 {
						in.l = with(fine.l, 0, double)
						want(t, in, api.ErrTwice, api.OK)
					}
					// Ahead of too few.
					in.l = replies(fine.l[i], double)
					want(t, in, api.ErrTwice, api.OK)
				}
			}
			for _, times := range []int{2, 65, 100} {
				in.l = slices.Repeat(fine.l, times)
				want(t, in, api.ErrTwice, api.OK)
			}
			in.l = slices.Repeat(fine.l[:1], 5000)
			want(t, in, api.ErrTwice, api.OK)
		}
	}
}

// None at all, one, and each number up to one fewer than are needed; just so many are enough.
func TestShort(t *testing.T) {
	for _, p := range slices.Concat(ordinary(), few(), many()) {
		for _, outs := range []int{0, 1} {
			in := good(p, outs)
			all := in.l
			for n := range needed(p) {
				in.l = all[:n]
				want(t, in, api.ErrShort, api.OK)
			}
			in.l = all[:needed(p)]
			want(t, in, api.OK, api.OK)
		}
	}
}

// A plan that needs more replies than it has workers, or far more, never has enough.
func TestShortOfAllWorkers(t *testing.T) {
	asked := 0
	for _, p := range sample.Plans() {
		if enough(p) {
			continue
		}
		all := make([]api.Reply, p.N)
		for worker := range all {
			all[worker] = r(worker, 1)
		}
		want(t, input{p: p, outs: 1, l: all}, api.ErrShort, api.OK)
		asked++
	}
	for _, p := range []api.Plan{sample.Plan(64, 64, 0, 0, 64, 1024), sample.Plan(64, 1, 0, 0, 32, 0), sample.Plan(64, 2, 0, 0, 0, 64)} {
		want(t, input{p: p, outs: 1, l: on(p, lists(l(3)), sample.Inputs(64))}, api.ErrShort, api.OK)
	}
	if asked < 30 {
		t.Errorf("only %d were asked", asked)
	}
}

// ErrMany comes behind all else: with values that would be too many wrong ones the other errors are told.
func TestManyComesLast(t *testing.T) {
	for _, f := range sample.Fields() {
		p := sample.With(sample.Plan(6, 2, 1, 0, 1, 1), f, 1)
		in := input{p: p, outs: 2}
		in.l = turned(p, turned(p, on(p, lists(l(5, 2), nil), sample.Inputs(6)), 0, 1), 1, 4)
		want(t, in, api.ErrMany, api.OK)
		all := in.l
		in.l = append(slices.Clone(all), r(5, 0, 0))
		want(t, in, api.ErrTwice, api.OK)
		in.l = append(slices.Clone(all), r(6, 0, 0))
		want(t, in, api.ErrArg, api.OK)
		in.l = all[:4]
		want(t, in, api.ErrShort, api.OK)
	}
}

// Where there is no polynomial of the first, a middle or the last out alone, nothing is told of the others.
func TestManyOfOneOut(t *testing.T) {
	for _, f := range sample.Fields() {
		p := sample.With(sample.Plan(8, 2, 1, 0, 2, 1), f, 1)
		for _, outs := range []int{1, 2, 5, 64} {
			in := good(p, outs)
			all := in.l
			for out := range outs {
				in.l = turned(p, all, out, 1, 3, 6)
				want(t, in, api.ErrMany, api.OK)
			}
		}
	}
}

// Check: a worker that there is not, too few and too many values, values and polynomials with numbers that are no elements, polynomials that are too long.
func TestCheckOfNobody(t *testing.T) {
	for _, p := range append(ordinary(), sample.Plans()...) {
		for _, worker := range sample.NoWorkers(p) {
			in := input{p: p, polys: lists(l(5)), values: l(5), worker: worker}
			want(t, in, api.ErrShort, api.ErrArg)
			in.polys, in.values = nil, nil
			want(t, in, api.ErrShort, api.ErrArg)
		}
	}
}

func TestCheckOfOtherNumbersOfValues(t *testing.T) {
	for _, p := range ordinary() {
		for n := range 6 {
			for m := range 6 {
				in := input{p: p, polys: slices.Repeat(lists(l(5)), n), values: slices.Repeat(l(5), m), outs: 65}
				e := api.OK
				if n != m {
					e = api.ErrArg
				}
				want(t, in, api.ErrArg, e)
			}
		}
		in := input{p: p, polys: slices.Repeat(lists(l(5)), 65), values: slices.Repeat(l(5), 64), outs: 65}
		want(t, in, api.ErrArg, api.ErrArg)
		in.values = append(in.values, 5)
		want(t, in, api.ErrArg, api.OK)
	}
}

// At each place, also behind a value that does not lie where it should, and where no other value is right.
func TestCheckOfNoElements(t *testing.T) {
	for _, p := range ordinary() {
		f := p.Field
		for _, n := range []int{1, 2, 5} {
			polys := lines(p, n, 4)
			right := valuesAt(f, polys, pointOf(p, 0))
			for i := range n {
				for _, values := range lists(right, slices.Repeat(l(12345), n)) {
					in := input{p: p, outs: -1}
					for _, a := range sample.Outside(f) {
						in.polys, in.values = polys, sample.Put(lists(values), 0, i, a)[0]
						want(t, in, api.ErrArg, api.ErrArg)
					}
					for _, faulty := range slices.Concat(sample.Faulty(f), sample.TooLong(f, 4096)) {
						in.polys, in.values = slices.Clone(polys), values
						in.polys[i] = faulty
						want(t, in, api.ErrArg, api.ErrArg)
					}
				}
			}
		}
	}
	// What is no element of the one field may be one of the other.
	in := input{p: sample.Plan(5, 2, 1, 0, 1, 1), polys: lists(l(2013265921)), values: l(1), outs: -1}
	want(t, in, api.ErrArg, api.ErrArg)
	in.p.Field = api.Large
	want(t, in, api.ErrArg, api.OK)
}

// All faults crossed.
func TestManyFaulty(t *testing.T) {
	for _, p := range append(ordinary(), api.Plan{}, sample.Plan(0, 2, 1, 0, 1, 1), sample.Plan(5, 2, 1, 0, -1, 1), sample.Plan(65, 2, 1, 0, 1, 1), api.Plan{Field: 3, N: 5, K: 1, Width: 1}) {
		fitting := sample.With(sample.Plan(6, 2, 1, 0, 1, 1), api.Small, 1)
		if plan.May(p) {
			fitting = p
		}
		for _, outs := range []int{-1, 0, 1, 2, 64, 65} {
			fine := good(fitting, max(0, min(outs, 64)))
			values := max(0, outs)
			half := fine.l[:len(fine.l)/2]
			nobody, short, long, outside := r(p.N, make([]uint64, values)...), r(0), r(0, make([]uint64, values+1)...), r(0, append(make([]uint64, max(0, values-1)), math.MaxUint64)...)
			for _, ahead := range [][]api.Reply{nil, half, fine.l, slices.Repeat(fine.l, 2), slices.Repeat(fine.l[:1], 2)} {
				for _, behind := range [][]api.Reply{nil, replies(nobody), replies(short), replies(long), replies(outside), replies(fine.l[0]), replies(fine.l[0], long), replies(outside, nobody)} {
					for _, worker := range at(-1, 0, p.N-1, p.N) {
						in := fine
						in.p, in.outs, in.l, in.worker = p, outs, slices.Concat(ahead, behind), worker
						wantErrors(t, in)
					}
				}
			}
		}
	}
}
