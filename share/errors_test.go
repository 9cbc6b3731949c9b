package share

// P14.1 and P14.2: the errors, which of them comes first, and what stands beside them.

import (
	"math"
	"slices"
	"testing"

	"conclave/api"
	"conclave/plan"
	"conclave/sample"
)

// input is all that may be handed in; a call takes what it has a place for.
type input struct {
	p                  api.Plan
	data, pads, shares [][]uint64
	worker             int
	who                []int
}

// By the words of the chapter.

func elementsBy(f api.Field, lists ...[]uint64) bool {
	for _, l := range lists {
		for _, a := range l {
			if a >= sample.Prime(f) {
				return false
			}
		}
	}
	return true
}

func workersThere(p api.Plan, who ...int) bool {
	return !slices.ContainsFunc(who, func(i int) bool { return i < 0 || i >= p.N })
}

func blocksBy(p api.Plan, blocks [][]uint64, n int) bool {
	return len(blocks) == n && !slices.ContainsFunc(blocks, func(l []uint64) bool { return len(l) != p.Width })
}

func twiceBy(who []int) bool {
	return len(slices.Compact(slices.Sorted(slices.Values(who)))) < len(who)
}

// errorBy is the first of the errors that apply.
func errorBy(arg, shape, twice bool) api.Errno {
	switch {
	case arg:
		return api.ErrArg
	case shape:
		return api.ErrShape
	case twice:
		return api.ErrTwice
	}
	return api.OK
}

// wantErrors has all calls answer the error by the words, and nothing beside it; it tells the errors of Polys and All, of Share and of Open.
func wantErrors(t *testing.T, in input) (told [3]api.Errno) {
	t.Helper()
	p, may := in.p, plan.May(in.p)
	elements := elementsBy(p.Field, in.data...) && elementsBy(p.Field, in.pads...)
	shape := !blocksBy(p, in.data, p.K) || !blocksBy(p, in.pads, p.T)
	told[0] = errorBy(!may || !elements, shape, false)
	told[1] = errorBy(!may || !elements || !workersThere(p, in.worker), shape, false)
	named := len(in.who) == p.K+p.T && blocksBy(p, in.shares, p.K+p.T)
	told[2] = errorBy(!may || !elementsBy(p.Field, in.shares...) || !workersThere(p, in.who...), !named, twiceBy(in.who))
	tell := func(what string, e, got api.Errno, nothing bool) {
		t.Helper()
		if got != e || nothing != (e != api.OK) {
			t.Errorf("%s(%v): %d, not %d, or not what stands beside it", what, in, got, e)
		}
	}
	polys, e := Polys(p, in.data, in.pads)
	tell("Polys", told[0], e, len(polys) == 0)
	all, e := All(p, in.data, in.pads)
	tell("All", told[0], e, len(all) == 0)
	share, e := Share(p, in.data, in.pads, in.worker)
	tell("Share", told[1], e, len(share) == 0)
	data, pads, e := Open(p, in.who, in.shares)
	tell("Open", told[2], e, len(data) == 0 && len(pads) == 0)
	return told
}

// want has the calls answer just these errors.
func want(t *testing.T, in input, all, one, open api.Errno) {
	t.Helper()
	if told := wantErrors(t, in); told != [3]api.Errno{all, one, open} {
		t.Errorf("%v: %v, not %d, %d, %d", in, told, all, one, open)
	}
}

func wantNone(t *testing.T, in input) {
	t.Helper()
	want(t, in, api.ErrArg, api.ErrArg, api.ErrArg)
}

// good is what a plan takes: with it nothing is wrong, if there are K + T workers.
func good(p api.Plan) input {
	n := p.K + p.T
	return input{
		p: p, data: sample.Blocks(p.Field, 1, p.K, p.Width), pads: sample.Blocks(p.Field, 2, p.T, p.Width),
		shares: sample.Blocks(p.Field, 3, n, p.Width), worker: p.N / 2, who: sample.Inputs(n),
	}
}

// ordinary are plans with enough workers, some of them without a pad.
func ordinary() []api.Plan {
	var plans []api.Plan
	for _, f := range sample.Fields() {
		plans = append(plans, sample.With(sample.Plan(6, 3, 2, 0, 0, 1), f, 3), sample.With(sample.Plan(4, 2, 1, 0, 0, 1), f, 1), sample.With(sample.Plan(3, 2, 0, 0, 0, 1), f, 2),
			sample.With(sample.Plan(1, 1, 0, 0, 0, 1), f, 1), sample.With(sample.Plan(64, 1, 4, 0, 0, 1), f, 4), sample.With(sample.Plan(5, 1, 4, 9, 9, 9), f, 2))
	}
	return plans
}

func TestNothingIsWrong(t *testing.T) {
	for _, p := range ordinary() {
		want(t, good(p), api.OK, api.OK, api.OK)
	}
}

// handed are inputs of all kinds, whatever the plan.
func handed(p api.Plan) []input {
	few := func(n int) int { return max(0, min(n, 64)) }
	fitting := api.Plan{Field: api.Small, N: few(p.N), K: few(p.K), T: few(p.T), Width: few(p.Width)}
	a, b := good(fitting), good(sample.Plan(4, 2, 1, 0, 0, 1))
	return []input{{}, a, b, {data: single(1), shares: single(1), who: []int{0}}, {data: single(math.MaxUint64), pads: single(5), worker: -1, who: []int{1, 1}}}
}

func TestNoPlan(t *testing.T) {
	for _, p := range sample.NoPlans() {
		for _, in := range handed(p) {
			in.p = p
			wantNone(t, in)
		}
	}
}

// The numbers next to those that may be, at each place, in both fields, with blocks that would fit.
func TestNoPlanByHand(t *testing.T) {
	for _, f := range sample.Fields() {
		p := sample.With(sample.Plan(11, 3, 1, 0, 2, 2), f, 2)
		want(t, good(p), api.OK, api.OK, api.OK)
		for i, wrong := range [][]int{{0, -1, 65}, {0, -1, 64, 65}, {-1, 62, 63}, {-1, 65}, {-1, 65}, {-1, 1025}, {0, -1, 65}} {
			for _, n := range append(wrong, math.MinInt, math.MaxInt) {
				bad := p
				*sample.PlanNumbers(&bad)[i] = n
				for _, in := range append(handed(bad), good(p)) {
					in.p = bad
					wantNone(t, in)
				}
			}
		}
		// Numbers whose sums would wrap to ones that may be.
		for _, bad := range []api.Plan{sample.Plan(4, math.MaxInt, math.MinInt, 0, 0, 1), sample.Plan(4, math.MinInt, math.MinInt, 0, 0, 1), sample.Plan(4, -2, 4, 0, 0, 1), sample.Plan(4, 4, -2, 0, 0, 1)} {
			for _, in := range handed(bad) {
				in.p = sample.With(bad, f, 1)
				wantNone(t, in)
			}
		}
	}
}

func TestNoField(t *testing.T) {
	for f := range 256 {
		in := good(sample.Plan(4, 2, 1, 0, 0, 1))
		in.p.Field = api.Field(f)
		if f == 1 || f == 2 {
			want(t, in, api.OK, api.OK, api.OK)
			continue
		}
		wantNone(t, in)
		wantNone(t, input{p: in.p})
	}
}

// A number that is no element at each place of data, pads and shares.
func TestNoElement(t *testing.T) {
	for _, p := range ordinary() {
		for _, a := range sample.Outside(p.Field) {
			for place := range p.Width {
				for block := range p.K {
					in := good(p)
					in.data = sample.Put(in.data, block, place, a)
					want(t, in, api.ErrArg, api.ErrArg, api.OK)
				}
				for block := range p.T {
					in := good(p)
					in.pads = sample.Put(in.pads, block, place, a)
					want(t, in, api.ErrArg, api.ErrArg, api.OK)
				}
				for block := range p.K + p.T {
					in := good(p)
					in.shares = sample.Put(in.shares, block, place, a)
					want(t, in, api.OK, api.OK, api.ErrArg)
				}
			}
		}
	}
}

// The greatest element is one; what is none of Small may be one of Large.
func TestGreatestElement(t *testing.T) {
	small, large := sample.Plan(3, 1, 1, 0, 0, 1), sample.With(sample.Plan(3, 1, 1, 0, 0, 1), api.Large, 1)
	for _, p := range []api.Plan{small, large} {
		top := single(sample.Prime(p.Field) - 1)
		want(t, input{p: p, data: top, pads: top, shares: slices.Concat(top, top), who: []int{2, 0}}, api.OK, api.OK, api.OK)
	}
	for _, a := range l(2013265921, 1<<32, 1<<63, 18446744069414584320) {
		in := input{p: large, data: single(a), pads: single(a), shares: single(a, a), who: []int{2, 0}}
		want(t, in, api.OK, api.OK, api.OK)
		in.p = small
		wantNone(t, in)
	}
}

// A number that is no element goes ahead of whatever is wrong with the shape: in a block too many, at the end of one too long, beyond all limits.
func TestNoElementWhereNothingIsAsked(t *testing.T) {
	for _, p := range ordinary() {
		for _, a := range sample.Outside(p.Field) {
			faulty := append(sample.Run(p.Field, 1, p.Width), a)
			for _, block := range lists(l(a), l(1, a), faulty, append(make([]uint64, 4095), a), append(make([]uint64, 4096), a), append(make([]uint64, 5000), a, 1)) {
				in := good(p)
				in.data = append(slices.Clone(in.data), block)
				want(t, in, api.ErrArg, api.ErrArg, api.OK)
				in = good(p)
				in.pads = append(slices.Clone(in.pads), block)
				want(t, in, api.ErrArg, api.ErrArg, api.OK)
				in = good(p)
				in.shares = append(slices.Clone(in.shares), block)
				want(t, in, api.OK, api.OK, api.ErrArg)
				// Behind far too many.
				many := append(slices.Repeat(lists(nil, l(1)), 5000), block)
				wantNone(t, input{p: p, data: many, shares: many})
				wantNone(t, input{p: p, pads: many, shares: many, who: []int{0, 0}})
			}
		}
	}
}

func TestNoWorker(t *testing.T) {
	for _, p := range ordinary() {
		for _, worker := range sample.NoWorkers(p) {
			in := good(p)
			in.worker = worker
			want(t, in, api.OK, api.ErrArg, api.OK)
			// Ahead of the shape.
			in.data = in.data[1:]
			want(t, in, api.ErrShape, api.ErrArg, api.OK)
			want(t, input{p: p, worker: worker, who: []int{worker}}, api.ErrShape, api.ErrArg, api.ErrArg)
			for at := range p.K + p.T {
				in = good(p)
				in.who[at] = worker
				want(t, in, api.OK, api.OK, api.ErrArg)
				in.shares = in.shares[1:]
				want(t, in, api.OK, api.OK, api.ErrArg)
			}
			// In a name too many, beside names that stand twice.
			in = good(p)
			in.who = append(in.who, 0, 0, worker)
			want(t, in, api.OK, api.OK, api.ErrArg)
			in.who = append(make([]int, 5000), worker)
			want(t, in, api.OK, api.OK, api.ErrArg)
		}
		for worker := range p.N {
			in := good(p)
			in.worker = worker
			want(t, in, api.OK, api.OK, api.OK)
		}
	}
}

func TestTooFewAndTooMany(t *testing.T) {
	for _, p := range ordinary() {
		n := p.K + p.T
		for _, k := range []int{0, 1, p.K - 1, p.K, p.K + 1, n, 64, 65, 5000} {
			for _, pads := range []int{0, 1, max(p.T-1, 0), p.T, p.T + 1, n, 64, 65, 5000} {
				in := good(p)
				in.data, in.pads = sample.Resized(p, in.data, k), sample.Resized(p, in.pads, pads)
				e := errorBy(false, k != p.K || pads != p.T, false)
				want(t, in, e, e, api.OK)
			}
		}
		for _, names := range []int{0, 1, n - 1, n, n + 1, 64, 65, 5000} {
			for _, shares := range []int{0, 1, n - 1, n, n + 1, 64, 65, 5000} {
				in := good(p)
				in.who = nil
				for i := range names {
					in.who = append(in.who, i%p.N)
				}
				in.shares = sample.Resized(p, in.shares, shares)
				want(t, in, api.OK, api.OK, errorBy(false, names != n || shares != n, false))
			}
		}
	}
}

// A block, a pad, a share of another length, at each place; also where all together have as many elements as they should.
func TestTooShortAndTooLong(t *testing.T) {
	for _, p := range ordinary() {
		for _, width := range []int{0, p.Width - 1, p.Width + 1, 2 * p.Width, 64, 65, 4096, 4097, 5000} {
			block := sample.Run(p.Field, 9, width)
			for at := range p.K {
				in := good(p)
				in.data[at] = block
				want(t, in, api.ErrShape, api.ErrShape, api.OK)
			}
			for at := range p.T {
				in := good(p)
				in.pads[at] = block
				want(t, in, api.ErrShape, api.ErrShape, api.OK)
			}
			for at := range p.K + p.T {
				in := good(p)
				in.shares[at] = block
				want(t, in, api.OK, api.OK, api.ErrShape)
			}
		}
		in := good(p)
		for i := range in.data {
			in.data[i] = append(in.data[i], 1)
		}
		for i := range in.shares {
			in.shares[i] = in.shares[i][1:]
		}
		want(t, in, api.ErrShape, api.ErrShape, api.ErrShape)
	}
	p := sample.With(sample.Plan(4, 2, 1, 0, 0, 1), api.Large, 2)
	in := good(p)
	in.data, in.shares = lists(l(1), l(2, 3, 4)), lists(l(1), l(2, 3), l(4, 5, 6))
	want(t, in, api.ErrShape, api.ErrShape, api.ErrShape)
}

// A worker that is named twice, wherever the two stand.
func TestTwice(t *testing.T) {
	for _, p := range ordinary() {
		n := p.K + p.T
		for i := range n {
			for j := range n {
				for _, worker := range []int{i, 0, p.N - 1} {
					in := good(p)
					in.who[i], in.who[j] = worker, worker
					want(t, in, api.OK, api.OK, errorBy(false, false, twiceBy(in.who)))
					// The shape goes ahead: of the shares, of how many are named.
					in.shares[i] = append(in.shares[i], 1)
					want(t, in, api.OK, api.OK, api.ErrShape)
					in = good(p)
					in.who[i], in.who[j] = worker, worker
					in.who = append(in.who, worker)
					want(t, in, api.OK, api.OK, api.ErrShape)
				}
			}
		}
	}
	// All of 64, and each pair next to another.
	for _, f := range sample.Fields() {
		in := good(sample.With(sample.Plan(64, 60, 4, 0, 0, 1), f, 1))
		want(t, in, api.OK, api.OK, api.OK)
		for i := range 63 {
			in.who = sample.Inputs(64)
			in.who[i+1] = i
			want(t, in, api.OK, api.OK, api.ErrTwice)
		}
		in.who = slices.Repeat([]int{63}, 64)
		want(t, in, api.OK, api.OK, api.ErrTwice)
	}
}

// Where there are fewer workers than inner points, K + T names name one twice.
func TestTooFewWorkersToOpen(t *testing.T) {
	for _, p := range grounds() {
		if n := p.K + p.T; p.N < n {
			in := good(p)
			for i := range in.who {
				in.who[i] %= p.N
			}
			want(t, in, api.OK, api.OK, api.ErrTwice)
			in.who, in.shares = in.who[:p.N], in.shares[:p.N]
			want(t, in, api.OK, api.OK, api.ErrShape)
			in.who, in.shares = sample.Inputs(n), good(p).shares
			want(t, in, api.OK, api.OK, api.ErrArg)
		}
	}
}

// names are lists of workers with all kinds of faults, and with none.
func names(p api.Plan) [][]int {
	n := p.K + p.T
	fine := sample.Inputs(n)
	return [][]int{fine, nil, fine[1:], append(slices.Clone(fine), 0), make([]int, n), slices.Repeat([]int{p.N - 1}, n), make([]int, n+1), slices.Repeat([]int{p.N}, n), slices.Repeat([]int{-1}, n+1), append(slices.Clone(fine[1:]), p.N), append(make([]int, n), -1), append(make([]int, n-1), p.N)}
}

// All faults of one kind with all of the others.
func TestWhichErrorComesFirst(t *testing.T) {
	told := map[api.Errno]int{}
	count := func(in input) {
		t.Helper()
		for _, e := range wantErrors(t, in) {
			told[e]++
		}
	}
	for _, p := range append(ordinary(), sample.Plan(0, 2, 1, 0, 0, 1), sample.Plan(4, 2, 1, 0, 65, 1), sample.With(sample.Plan(4, 2, 1, 0, 0, 1), api.Large, 65)) {
		for _, data := range sample.FaultyBlocks(p, p.K) {
			for _, pads := range sample.FaultyBlocks(p, p.T) {
				for _, worker := range []int{0, p.N - 1, -1, p.N, math.MaxInt} {
					count(input{p: p, data: data, pads: pads, worker: worker})
				}
			}
		}
		for _, who := range names(p) {
			for _, shares := range sample.FaultyBlocks(p, p.K+p.T) {
				count(input{p: p, who: who, shares: shares})
			}
		}
	}
	if told[api.ErrArg] < 500 || told[api.ErrShape] < 500 || told[api.ErrTwice] < 20 || told[api.OK] < 20 {
		t.Errorf("the errors were told so often: %v", told)
	}
}
