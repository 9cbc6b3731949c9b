package reply

// P16.1 and P16.2: the errors, which of them comes first, and what stands beside them.

import (
	"math"
	"slices"
	"testing"

	"conclave/api"
	"conclave/eval"
	"conclave/sample"
	"conclave/share"
)

// input is all that may be handed in; a call takes what it has a place for.
type input struct {
	p          api.Plan
	prog       api.Prog
	share      []uint64
	data, pads [][]uint64
	worker     int
}

// By the words of the chapter.

func elementsBy(f api.Field, lists ...[]uint64) bool {
	for _, list := range lists {
		if slices.ContainsFunc(list, func(a uint64) bool { return a >= sample.Prime(f) }) {
			return false
		}
	}
	return true
}

func blocksBy(p api.Plan, blocks [][]uint64, n int) bool {
	return len(blocks) == n && !slices.ContainsFunc(blocks, func(l []uint64) bool { return len(l) != p.Width })
}

// errorBy is the first of the errors that apply.
func errorBy(arg, shape, limit bool) api.Errno {
	switch {
	case arg:
		return api.ErrArg
	case shape:
		return api.ErrShape
	case limit:
		return api.ErrLimit
	}
	return api.OK
}

// limitBy tells whether eval.Compose has that error.
func limitBy(in input) bool {
	polys, e := share.Polys(in.p, in.data, in.pads)
	if e != api.OK {
		return false
	}
	_, e = eval.Compose(in.p.Field, in.prog, polys)
	return e == api.ErrLimit
}

// told are the errors of all calls.
type told struct{ fits, reply, results, polys, honest api.Errno }

func toldBy(in input) told {
	p, arg := in.p, !fitsBy(in.p, in.prog)
	data, pads := elementsBy(p.Field, in.data...), elementsBy(p.Field, in.pads...)
	shape := !blocksBy(p, in.data, p.K) || !blocksBy(p, in.pads, p.T)
	nobody := in.worker < 0 || in.worker >= p.N
	return told{
		errorBy(arg, false, false),
		errorBy(arg || !elementsBy(p.Field, in.share), len(in.share) != p.Width, false),
		errorBy(arg || !data, !blocksBy(p, in.data, p.K), false),
		errorBy(arg || !data || !pads, shape, limitBy(in)),
		errorBy(arg || !data || !pads || nobody, shape, false),
	}
}

// wantErrors has all calls answer the errors by the words, and nothing beside one; it tells them.
func wantErrors(t *testing.T, in input) told {
	t.Helper()
	want := toldBy(in)
	tell := func(what string, e, got api.Errno, answers, of int) {
		t.Helper()
		if e != api.OK {
			of = 0
		}
		if got != e || answers != of {
			t.Errorf("%s(%v, %s, share %s, data %s, pads %s, %d): %d, not %d, and %d beside it", what, in.p, briefProg(in.prog), sample.Brief(in.share), brief(in.data), brief(in.pads), in.worker, got, e, answers)
		}
	}
	outs := len(in.prog.Outs)
	tell("Fits", want.fits, Fits(in.p, in.prog), 0, 0)
	reply, e := Reply(in.p, in.prog, in.share)
	tell("Reply", want.reply, e, len(reply), outs)
	results, e := Results(in.p, in.prog, in.data)
	tell("Results", want.results, e, len(results), in.p.K)
	polys, e := Polys(in.p, in.prog, in.data, in.pads)
	tell("Polys", want.polys, e, len(polys), outs)
	honest, e := Honest(in.p, in.prog, in.data, in.pads, in.worker)
	tell("Honest", want.honest, e, len(honest), outs)
	return want
}

// want has the calls answer just these errors, where the program fits the plan.
func want(t *testing.T, in input, reply, results, polys, honest api.Errno) {
	t.Helper()
	if got := wantErrors(t, in); got != (told{api.OK, reply, results, polys, honest}) {
		t.Errorf("%v, %s: %v, not %d, %d, %d, %d", in.p, briefProg(in.prog), got, reply, results, polys, honest)
	}
}

// wantNone has all calls answer ErrArg, since the program does not fit the plan.
func wantNone(t *testing.T, in input) {
	t.Helper()
	if e := api.ErrArg; wantErrors(t, in) != (told{e, e, e, e, e}) {
		t.Errorf("%v, %s: it fits", in.p, briefProg(in.prog))
	}
}

// good is what a plan takes: with it nothing is wrong.
func good(p api.Plan) input {
	return input{
		p: p, prog: raised(p.Width, min(p.Degree, 5)), share: sample.Run(p.Field, 3, p.Width),
		data: sample.Blocks(p.Field, 1, p.K, p.Width), pads: sample.Blocks(p.Field, 2, p.T, p.Width), worker: p.N / 2,
	}
}

// ordinary are plans with and without pads, accepted or not.
func ordinary() []api.Plan {
	var plans []api.Plan
	for _, f := range sample.Fields() {
		for width, p := range []api.Plan{sample.Plan(5, 2, 1, 0, 0, 2), sample.Plan(6, 3, 2, 0, 0, 1), sample.Plan(3, 2, 0, 0, 0, 3), sample.Plan(1, 1, 0, 0, 0, 0), sample.Plan(64, 1, 4, 0, 0, 2), sample.Plan(2, 1, 4, 9, 9, 9)} {
			plans = append(plans, sample.With(p, f, 1+width%3))
		}
	}
	return plans
}

func TestNothingIsWrong(t *testing.T) {
	for _, p := range append(ordinary(), grounds()...) {
		want(t, good(p), api.OK, api.OK, api.OK, api.OK)
	}
}

// handed are inputs of all kinds, whatever the plan.
func handed(p api.Plan) []input {
	few := func(n int) int { return max(0, min(n, 64)) }
	fitting := api.Plan{Field: api.Small, N: few(p.N), K: few(p.K), T: few(p.T), Width: max(1, few(p.Width)), Degree: 1}
	return []input{{}, good(fitting), good(sample.Plan(4, 2, 1, 0, 0, 2)), {prog: api.Prog{Inputs: p.Width}, share: l(1, 2), data: single(1)}, {share: l(math.MaxUint64), data: single(math.MaxUint64), pads: single(5), worker: -1}}
}

func TestNoPlan(t *testing.T) {
	for _, p := range sample.NoPlans() {
		for _, in := range handed(p) {
			in.p = p
			wantNone(t, in)
		}
	}
}

// The numbers next to those that may be, at each place, in both fields, with a program and blocks that would fit.
func TestNoPlanByHand(t *testing.T) {
	for _, f := range sample.Fields() {
		p := sample.With(sample.Plan(11, 3, 1, 0, 2, 2), f, 2)
		want(t, good(p), api.OK, api.OK, api.OK, api.OK)
		for i, wrong := range [][]int{{0, -1, 65}, {0, -1, 64, 65}, {-1, 62, 63}, {-1, 65}, {-1, 65}, {-1, 1025}, {0, -1, 65}} {
			for _, n := range append(wrong, math.MinInt, math.MaxInt) {
				bad := p
				*sample.PlanNumbers(&bad)[i] = n
				for _, in := range append(handed(bad), good(p)) {
					in.p = bad
					wantNone(t, in)
				}
			}
		}
		// Numbers whose sums would wrap to ones that may be.
		for _, bad := range []api.Plan{sample.Plan(4, math.MaxInt, math.MinInt, 0, 0, 1), sample.Plan(4, math.MinInt, math.MinInt, 0, 0, 1), sample.Plan(4, -2, 4, 0, 0, 1), sample.Plan(4, 4, -2, 0, 0, 1)} {
			for _, in := range handed(bad) {
				in.p = sample.With(bad, f, 1)
				wantNone(t, in)
			}
		}
		// Pads that there may be no more of, beside data alone, that know nothing of pads.
		bad := good(sample.With(sample.Plan(4, 2, 0, 0, 0, 1), f, 1))
		for _, pads := range []int{63, 64, -1, math.MinInt, math.MaxInt} {
			bad.p.T = pads
			wantNone(t, bad)
		}
	}
}

func TestNoField(t *testing.T) {
	for f := range 256 {
		in := good(sample.Plan(4, 2, 1, 0, 0, 2))
		in.p.Field = api.Field(f)
		if f == 1 || f == 2 {
			want(t, in, api.OK, api.OK, api.OK, api.OK)
			continue
		}
		wantNone(t, in)
		wantNone(t, input{p: in.p, prog: in.prog})
	}
}

// A program that may not be, whatever it is handed with.
func TestNoProgram(t *testing.T) {
	for _, f := range sample.Fields() {
		p := sample.With(sample.Plan(4, 2, 1, 0, 0, 1024), f, 2)
		in := good(p)
		in.prog = sample.Prog(11, 2, 6, 5)
		want(t, in, api.OK, api.OK, api.OK, api.OK)
		for _, prog := range sample.NoProgs() {
			in.prog = prog
			wantNone(t, in)
			wantNone(t, input{p: p, prog: prog, worker: 9})
			// As wide as it is, where that may be.
			wantNone(t, input{p: sample.With(p, f, prog.Inputs), prog: prog})
		}
	}
}

// One that has too few or too many Inputs, with shares and blocks as the plan and as the program would have them.
func TestInputs(t *testing.T) {
	for _, p := range ordinary() {
		for _, inputs := range []int{0, 1, 2, 3, 4, 63, 64} {
			if inputs == p.Width {
				continue
			}
			for _, prog := range []api.Prog{{Inputs: inputs}, {Inputs: inputs, Ops: ops(constant(3)), Outs: outs(inputs)}, {Inputs: inputs, Outs: sample.Inputs(inputs)}} {
				in := good(p)
				in.prog = prog
				wantNone(t, in)
				wantNone(t, input{p: p, prog: prog, share: sample.Run(p.Field, 3, inputs), data: sample.Blocks(p.Field, 1, p.K, inputs), pads: sample.Blocks(p.Field, 2, p.T, inputs)})
				wantNone(t, input{p: p, prog: prog})
			}
		}
	}
}

// One whose degree is one more than the plan's, or past the bound.
func TestTooSteep(t *testing.T) {
	for _, p := range ordinary() {
		for _, prog := range []api.Prog{raised(p.Width, p.Degree+1), raised(p.Width, 1024), raised(p.Width, 1025), raised(p.Width, 1<<60)} {
			in := good(p)
			in.prog = prog
			wantNone(t, in)
			in.share, in.data, in.worker = nil, in.data[1:], p.N
			wantNone(t, in)
		}
		in := good(p)
		in.prog = raised(p.Width, p.Degree)
		want(t, in, api.OK, api.OK, api.OK, api.OK)
	}
	// With the greatest Degree, too; there ErrLimit is an error of the degree, not of what comes out.
	for _, n := range []int{1025, 2048, 1 << 40} {
		in := good(sample.Plan(4, 2, 1, 0, 0, 1024))
		in.prog = raised(1, n)
		wantNone(t, in)
	}
}

// A number that is no element at each place of a share, of data and of pads.
func TestNoElement(t *testing.T) {
	for _, p := range ordinary() {
		for _, a := range sample.Outside(p.Field) {
			for place := range p.Width {
				in := good(p)
				in.share = sample.Put(lists(in.share), 0, place, a)[0]
				want(t, in, api.ErrArg, api.OK, api.OK, api.OK)
				for block := range p.K {
					in := good(p)
					in.data = sample.Put(in.data, block, place, a)
					want(t, in, api.OK, api.ErrArg, api.ErrArg, api.ErrArg)
				}
				for block := range p.T {
					in := good(p)
					in.pads = sample.Put(in.pads, block, place, a)
					want(t, in, api.OK, api.OK, api.ErrArg, api.ErrArg)
				}
			}
		}
	}
}

// Also where the program does not look at it, or nothing comes out.
func TestNoElementThatNothingUses(t *testing.T) {
	for _, p := range ordinary() {
		for _, prog := range []api.Prog{{Inputs: p.Width}, {Inputs: p.Width, Ops: ops(constant(3)), Outs: outs(p.Width)}} {
			for _, a := range sample.Outside(p.Field) {
				in := good(p)
				in.prog = prog
				want(t, in, api.OK, api.OK, api.OK, api.OK)
				in.share, in.data = sample.Put(lists(in.share), 0, 0, a)[0], sample.Put(in.data, p.K-1, 0, a)
				want(t, in, api.ErrArg, api.ErrArg, api.ErrArg, api.ErrArg)
			}
		}
	}
}

// The greatest element is one; what is none of Small may be one of Large.
func TestGreatestElement(t *testing.T) {
	small, large := sample.Plan(3, 1, 1, 0, 0, 2), sample.With(sample.Plan(3, 1, 1, 0, 0, 2), api.Large, 1)
	for _, p := range []api.Plan{small, large} {
		top := sample.Prime(p.Field) - 1
		for _, a := range l(0, top) {
			want(t, input{p, raised(1, 2), l(a), single(a), single(a), 2}, api.OK, api.OK, api.OK, api.OK)
		}
	}
	for _, a := range l(2013265921, 1<<32, 1<<63, 18446744069414584320) {
		want(t, input{large, raised(1, 2), l(a), single(a), single(a), 2}, api.OK, api.OK, api.OK, api.OK)
		want(t, input{small, raised(1, 2), l(a), single(a), single(a), 2}, api.ErrArg, api.ErrArg, api.ErrArg, api.ErrArg)
	}
}

// A number that is no element goes ahead of whatever is wrong with the shape: in a block too many, at the end of one too long, beyond all limits.
func TestNoElementWhereNothingIsAsked(t *testing.T) {
	for _, p := range ordinary() {
		for _, a := range sample.Outside(p.Field) {
			faulty := append(sample.Run(p.Field, 1, p.Width), a)
			for _, block := range lists(l(a), l(1, a), faulty, append(make([]uint64, 4095), a), append(make([]uint64, 4096), a), append(make([]uint64, 5000), a, 1)) {
				in := good(p)
				in.data = append(slices.Clone(in.data), block)
				want(t, in, api.OK, api.ErrArg, api.ErrArg, api.ErrArg)
				in = good(p)
				in.pads = append(slices.Clone(in.pads), block)
				want(t, in, api.OK, api.OK, api.ErrArg, api.ErrArg)
				// Behind far too many, of the right length or of none.
				for _, other := range lists(nil, sample.Run(p.Field, 4, p.Width)) {
					many := append(slices.Repeat(lists(other), 5000), block)
					want(t, input{p: p, prog: good(p).prog, data: many}, api.ErrShape, api.ErrArg, api.ErrArg, api.ErrArg)
					want(t, input{p: p, prog: good(p).prog, pads: many}, api.ErrShape, api.ErrShape, api.ErrArg, api.ErrArg)
				}
				if len(block) != p.Width {
					in = good(p)
					in.share = block
					want(t, in, api.ErrArg, api.OK, api.OK, api.OK)
				}
			}
		}
	}
}

func TestNoWorker(t *testing.T) {
	for _, p := range ordinary() {
		for _, worker := range sample.NoWorkers(p) {
			in := good(p)
			in.worker = worker
			want(t, in, api.OK, api.OK, api.OK, api.ErrArg)
			// Ahead of the shape.
			in.data = in.data[1:]
			want(t, in, api.OK, api.ErrShape, api.ErrShape, api.ErrArg)
			want(t, input{p: p, prog: in.prog, worker: worker}, api.ErrShape, api.ErrShape, api.ErrShape, api.ErrArg)
		}
		// The first and the last one, and all others.
		for worker := range p.N {
			in := good(p)
			in.worker = worker
			want(t, in, api.OK, api.OK, api.OK, api.OK)
		}
	}
}

func TestTooFewAndTooMany(t *testing.T) {
	for _, p := range ordinary() {
		n := p.K + p.T
		for _, k := range []int{0, 1, p.K - 1, p.K, p.K + 1, n, 64, 65, 4096, 4097, 5000} {
			results := errorBy(false, k != p.K, false)
			for _, pads := range []int{0, 1, max(p.T-1, 0), p.T, p.T + 1, n, 64, 65, 5000} {
				in := good(p)
				in.data, in.pads = sample.Resized(p, in.data, k), sample.Resized(p, in.pads, pads)
				e := errorBy(false, k != p.K || pads != p.T, false)
				want(t, in, api.OK, results, e, e)
			}
		}
	}
}

// A share, a block, a pad of another length, at each place; also where all together have as many elements as they should.
func TestTooShortAndTooLong(t *testing.T) {
	for _, p := range ordinary() {
		for _, width := range []int{0, p.Width - 1, p.Width + 1, 2 * p.Width, 64, 65, 4096, 4097, 5000} {
			block := sample.Run(p.Field, 9, width)
			in := good(p)
			in.share = block
			want(t, in, api.ErrShape, api.OK, api.OK, api.OK)
			for at := range p.K {
				in := good(p)
				in.data[at] = block
				want(t, in, api.OK, api.ErrShape, api.ErrShape, api.ErrShape)
			}
			for at := range p.T {
				in := good(p)
				in.pads[at] = block
				want(t, in, api.OK, api.OK, api.ErrShape, api.ErrShape)
			}
		}
	}
	in := good(sample.With(sample.Plan(4, 2, 2, 0, 0, 2), api.Large, 2))
	in.data = lists(l(1), l(2, 3, 4))
	want(t, in, api.OK, api.ErrShape, api.ErrShape, api.ErrShape)
	in.data, in.pads = lists(l(1, 2), l(3, 4)), lists(l(1, 2, 3), l(4))
	want(t, in, api.OK, api.OK, api.ErrShape, api.ErrShape)
}

// ErrLimit comes behind all others.
func TestLimitIsLast(t *testing.T) {
	for _, f := range sample.Fields() {
		p := sample.With(sample.Plan(4, 4, 1, 0, 0, 1024), f, 1)
		in := good(p)
		in.prog = raised(1, 1024)
		want(t, in, api.OK, api.OK, api.ErrLimit, api.OK)
		in.prog = raised(1, 1023)
		want(t, in, api.OK, api.OK, api.OK, api.OK)
		in.prog = raised(1, 1024)
		for _, data := range sample.FaultyBlocks(p, p.K)[1:] {
			if wrong := in; elementsBy(f, data...) {
				wrong.data = data
				want(t, wrong, api.OK, api.ErrShape, api.ErrShape, api.ErrShape)
			}
		}
		wrong := in
		wrong.pads = nil
		want(t, wrong, api.OK, api.OK, api.ErrShape, api.ErrShape)
		wrong.pads = single(sample.Prime(f))
		want(t, wrong, api.OK, api.OK, api.ErrArg, api.ErrArg)
		wrong.p.Degree = 1023
		wantNone(t, wrong)
	}
}

// faultyPrograms are programs with all kinds of faults, and ahead of them ones that fit.
func faultyPrograms(p api.Plan) []api.Prog {
	return []api.Prog{
		raised(max(p.Width, 1), min(p.Degree, 9)), {Inputs: p.Width}, raised(max(p.Width, 1), p.Degree+1), raised(max(p.Width, 1), 1025),
		{Inputs: p.Width + 1}, {Inputs: p.Width - 1}, {Inputs: p.Width, Outs: outs(p.Width)}, {Inputs: p.Width, Ops: ops(step(api.OMul, 0, p.Width)), Outs: outs(0)},
	}
}

// All faults of one kind with all of the others.
func TestWhichErrorComesFirst(t *testing.T) {
	often := map[api.Errno]int{}
	steep := sample.With(sample.Plan(3, 5, 0, 0, 0, 1024), api.Large, 2)
	for _, p := range append(ordinary(), steep, sample.Plan(0, 2, 1, 0, 0, 1), sample.Plan(4, 2, 1, 0, 65, 1), sample.With(sample.Plan(4, 2, 1, 0, 0, 1), api.Large, 65), sample.Plan(4, 2, 1, 0, 0, 1025)) {
		progs := faultyPrograms(p)
		if p == steep {
			progs = append(progs, raised(2, 1024))
		}
		fine := sample.Run(p.Field, 2, p.Width)
		shares := lists(fine, nil, fine[1:], append(slices.Clone(fine), 1), append(slices.Clone(fine[1:]), sample.Prime(p.Field)), append(slices.Clone(fine), math.MaxUint64))
		for i, prog := range progs {
			for j, data := range sample.FaultyBlocks(p, p.K) {
				for k, pads := range sample.FaultyBlocks(p, p.T) {
					for _, worker := range []int{0, p.N - 1, -1, p.N, math.MaxInt} {
						got := wantErrors(t, input{p, prog, shares[(i+j+k)%len(shares)], data, pads, worker})
						for _, e := range []api.Errno{got.fits, got.reply, got.results, got.polys, got.honest} {
							often[e]++
						}
					}
				}
			}
		}
	}
	if often[api.ErrArg] < 500 || often[api.ErrShape] < 500 || often[api.ErrLimit] < 2 || often[api.OK] < 20 {
		t.Errorf("the errors were told so often: %v", often)
	}
}
