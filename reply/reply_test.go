package reply

// P16.1 and P16.2: what each call answers, and the chapter's examples.

import (
	"math"
	"slices"
	"strconv"
	"testing"

	"conclave/api"
	"conclave/degree"
	"conclave/eval"
	"conclave/field"
	"conclave/plan"
	"conclave/sample"
	"conclave/share"
	"conclave/slp"
)

func l(a ...uint64) []uint64 { return a }

func lists(l ...[]uint64) [][]uint64 { return l }

func outs(o ...int) []int { return o }

func ops(o ...api.Op) []api.Op { return o }

func step(kind api.OpKind, a, b int) api.Op { return api.Op{Kind: kind, A: a, B: b} }

func constant(c uint64) api.Op { return api.Op{Kind: api.OConst, C: c} }

// single are blocks of one element each.
func single(a ...uint64) (blocks [][]uint64) {
	for _, x := range a {
		blocks = append(blocks, l(x))
	}
	return blocks
}

func same(a, b [][]uint64) bool { return slices.EqualFunc(a, b, slices.Equal[[]uint64]) }

// brief tells blocks that may be many.
func brief(blocks [][]uint64) string {
	return strconv.Itoa(len(blocks)) + " blocks " + sample.Brief(slices.Concat(blocks...))
}

// briefProg tells a program that may be long.
func briefProg(prog api.Prog) string {
	if text, e := slp.Text(prog); e == api.OK && len(text) < 200 {
		return strconv.Quote(text)
	}
	return strconv.Itoa(prog.Inputs) + " inputs, " + strconv.Itoa(len(prog.Ops)) + " steps, " + strconv.Itoa(len(prog.Outs)) + " outs"
}

func wantFits(t *testing.T, p api.Plan, prog api.Prog, e api.Errno) {
	t.Helper()
	if got := Fits(p, prog); got != e {
		t.Errorf("Fits(%v, %s) = %d, not %d", p, briefProg(prog), got, e)
	}
}

func wantReply(t *testing.T, p api.Plan, prog api.Prog, share, answer []uint64, e api.Errno) {
	t.Helper()
	if reply, got := Reply(p, prog, share); !slices.Equal(reply, answer) || got != e {
		t.Errorf("Reply(%v, %s, %s) = %s, %d, not %s, %d", p, briefProg(prog), sample.Brief(share), sample.Brief(reply), got, sample.Brief(answer), e)
	}
}

func wantResults(t *testing.T, p api.Plan, prog api.Prog, data, answer [][]uint64, e api.Errno) {
	t.Helper()
	if results, got := Results(p, prog, data); !same(results, answer) || got != e {
		t.Errorf("Results(%v, %s, %s) = %s, %d, not %s, %d", p, briefProg(prog), brief(data), brief(results), got, brief(answer), e)
	}
}

func wantPolys(t *testing.T, p api.Plan, prog api.Prog, data, pads, answer [][]uint64, e api.Errno) {
	t.Helper()
	if polys, got := Polys(p, prog, data, pads); !same(polys, answer) || got != e {
		t.Errorf("Polys(%v, %s, %s, %s) = %s, %d, not %s, %d", p, briefProg(prog), brief(data), brief(pads), brief(polys), got, brief(answer), e)
	}
}

func wantHonest(t *testing.T, p api.Plan, prog api.Prog, data, pads [][]uint64, worker int, answer []uint64, e api.Errno) {
	t.Helper()
	if reply, got := Honest(p, prog, data, pads, worker); !slices.Equal(reply, answer) || got != e {
		t.Errorf("Honest(%v, %s, %s, %s, %d) = %s, %d, not %s, %d", p, briefProg(prog), brief(data), brief(pads), worker, sample.Brief(reply), got, sample.Brief(answer), e)
	}
}

// raised has so many inputs, and the power n of the last one comes out, 1 for an n of 0.
func raised(inputs, n int) api.Prog {
	if n == 0 {
		return api.Prog{Inputs: inputs, Ops: ops(constant(1)), Outs: outs(inputs)}
	}
	prog, _ := slp.After(sample.Raise(n), api.Prog{Inputs: inputs, Outs: outs(inputs - 1)})
	return prog
}

// withOuts is a program with other Outs.
func withOuts(prog api.Prog, outs ...int) api.Prog {
	prog.Outs = outs
	return prog
}

// programs are such as fit a plan: some with nothing of steps, of Outs, of inputs that are used, with as many Outs as there may be, one of just the plan's Degree, and many without any order.
func programs(p api.Plan) []api.Prog {
	w := p.Width
	all := []api.Prog{
		{Inputs: w},
		{Inputs: w, Outs: sample.Inputs(w)},
		{Inputs: w, Outs: slices.Repeat(outs(w-1), 64)},
		{Inputs: w, Ops: ops(constant(7), constant(math.MaxUint64)), Outs: outs(w+1, w)},
		{Inputs: w, Ops: ops(step(api.OSub, 0, w-1), step(api.OAdd, 0, w)), Outs: outs(w+1, w, w)},
		{Inputs: w, Ops: ops(constant(2013265922), step(api.OMul, w, 0), step(api.OMul, w+1, w-1)), Outs: outs(w + 1)},
		raised(w, p.Degree),
		// What nothing hangs on may have any degree.
		withOuts(raised(w, 2*p.Degree+1), w-1, 0),
	}
	for from := range 5 {
		all = append(all, sample.Prog(40*from, w, 1+3*from, 1+from), sample.Steep(30*from, w, 2+from, 3), sample.Prog(17*from, w, 40, 7))
	}
	return slices.DeleteFunc(all, func(prog api.Prog) bool {
		n, e := degree.Of(prog)
		return e != api.OK || n > p.Degree
	})
}

// grounds are plans: all small ones, and the sample's, of which many have fewer workers than inner points, and many are not accepted.
func grounds() []api.Plan {
	plans := sample.Plans()
	for _, f := range sample.Fields() {
		for n := 1; n <= 3; n++ {
			for k := 1; k <= 3; k++ {
				for pads := range 3 {
					plans = append(plans, sample.With(sample.Plan(n, k, pads, 0, 0, n+pads), f, 1+(n+k+pads)%3))
				}
			}
		}
		for _, d := range []int{0, 1, 5, 40, 1024} {
			plans = append(plans, sample.With(sample.Plan(30, 4, 2, 1, 2, d), f, 2), sample.With(sample.Plan(9, 1, 1, 1, 0, d), f, 4))
		}
	}
	return plans
}

// round is data blocks with pads.
type round struct{ data, pads [][]uint64 }

// rounds are of elements without any order, of edges, of 0 and one less than the prime alone.
func rounds(p api.Plan) []round {
	f, k, pads, width := p.Field, p.K, p.T, p.Width
	top := sample.Prime(f) - 1
	return []round{
		{sample.Blocks(f, p.N, k, width), sample.Blocks(f, k*width+p.N, pads, width)},
		{sample.EdgeBlocks(f, 3, k, width), sample.EdgeBlocks(f, 8, pads, width)},
		{sample.EqualBlocks(0, k, width), sample.EqualBlocks(0, pads, width)},
		{sample.EqualBlocks(top, k, width), sample.EqualBlocks(top, pads, width)},
		{sample.EqualBlocks(0, k, width), sample.EqualBlocks(top, pads, width)},
	}
}

// everywhere does it with all plans, with all programs that fit them and with all rounds; with the larger plans the rounds take turns, and with the largest ones the programs do.
func everywhere(do func(p api.Plan, prog api.Prog, r round)) {
	for at, p := range grounds() {
		all := rounds(p)
		size := (p.K + p.T) * (p.K + p.T) * p.Width
		for i, prog := range programs(p) {
			if size > 4000 && (i+at)%3 > 0 || size > 50000 && (i+at)%2 > 0 {
				continue
			}
			if size > 100 {
				do(p, prog, all[(at+i)%len(all)])
				continue
			}
			for _, r := range all {
				do(p, prog, r)
			}
		}
	}
}

// someWorkers are all of a few, else the first, the last and one between.
func someWorkers(p api.Plan) []int {
	if p.N <= 4 {
		return sample.Inputs(p.N)
	}
	return []int{0, p.N / 2, p.N - 1}
}

// P16.1

// degreeBy is the degree of a program that may be, by the words of chapter 10; floats hold whatever many products come to.
func degreeBy(prog api.Prog) (greatest float64) {
	all := slices.Repeat([]float64{1}, prog.Inputs)
	for _, op := range prog.Ops {
		switch op.Kind {
		case api.OConst:
			all = append(all, 0)
		case api.OMul:
			all = append(all, all[op.A]+all[op.B])
		default:
			all = append(all, max(all[op.A], all[op.B]))
		}
	}
	for _, out := range prog.Outs {
		greatest = max(greatest, all[out])
	}
	return greatest
}

func fitsBy(p api.Plan, prog api.Prog) bool {
	return plan.May(p) && slp.May(prog) && prog.Inputs == p.Width && degreeBy(prog) <= float64(p.Degree)
}

// All programs of the samples and those made for a plan, with all plans.
func TestFits(t *testing.T) {
	plans := append(grounds(), sample.NoPlans()...)
	progs := append(sample.Progs(), sample.NoProgs()...)
	for width := range 4 {
		for from := range 8 {
			progs = append(progs, sample.Prog(9*from, width, 2+2*from, 1+from%3), sample.Steep(11*from, width+1, 1+from, 1+from%3), raised(width+1, 1<<from))
		}
	}
	told := map[api.Errno]int{}
	for _, p := range plans {
		for _, prog := range progs {
			e := api.ErrArg
			if fitsBy(p, prog) {
				e = api.OK
			}
			wantFits(t, p, prog, e)
			told[e]++
		}
	}
	if told[api.OK] < 500 || told[api.ErrArg] < 500 {
		t.Errorf("the errors were told so often: %v", told)
	}
	everywhere(func(p api.Plan, prog api.Prog, r round) { wantFits(t, p, prog, api.OK) })
}

// wantDegree has a program of one input fit just the plans of the Degree n and above.
func wantDegree(t *testing.T, prog api.Prog, n int) {
	t.Helper()
	for _, f := range sample.Fields() {
		for _, d := range []int{0, 1, 2, n - 1, n, n + 1, 2 * n, 1023, 1024} {
			e := api.OK
			if n > d {
				e = api.ErrArg
			}
			if d >= 0 && d <= 1024 {
				wantFits(t, sample.With(sample.Plan(4, 2, 1, 0, 0, d), f, 1), prog, e)
			}
		}
	}
}

// The degree 0, each one that may be, one more, and ones far past the bound.
func TestFitsByDegree(t *testing.T) {
	for n := range 1025 {
		wantDegree(t, raised(1, n), n)
	}
	// One more than the bound, twice it, powers of two that no int holds.
	wantDegree(t, raised(1, 1025), 1025)
	for n := range 257 {
		if n < 11 {
			wantDegree(t, sample.Squares(n), 1<<n)
			continue
		}
		wantDegree(t, sample.Squares(n), 2048)
	}
}

func TestFitsByHand(t *testing.T) {
	high := sample.Squares(256)
	for _, c := range []struct {
		prog api.Prog
		n    int
	}{
		// Nothing comes out, or nothing that hangs on an input.
		{api.Prog{Inputs: 1}, 0},
		{api.Prog{Inputs: 1, Ops: ops(constant(5)), Outs: outs(1)}, 0},
		{withOuts(high), 0},
		// An input as it is, and twice.
		{api.Prog{Inputs: 1, Outs: outs(0)}, 1},
		{api.Prog{Inputs: 1, Outs: outs(0, 0)}, 1},
		// Steps that nothing comes out of.
		{withOuts(high, 0), 1},
		{withOuts(high, 0, 3, 1), 8},
		// The greatest one counts, wherever it stands.
		{withOuts(high, 10, 0), 1024},
		{withOuts(high, 0, 10), 1024},
		{withOuts(high, 0, 11, 1), 2048},
		// It is a bound: what comes out may be lower.
		{api.Prog{Inputs: 1, Ops: ops(step(api.OMul, 0, 0), step(api.OSub, 1, 1)), Outs: outs(2)}, 2},
		{api.Prog{Inputs: 1, Ops: ops(constant(0), step(api.OMul, 0, 1)), Outs: outs(2)}, 1},
		{api.Prog{Inputs: 1, Ops: ops(step(api.OMul, 0, 0), step(api.OAdd, 1, 0), step(api.OMul, 2, 1)), Outs: outs(3)}, 4},
	} {
		wantDegree(t, c.prog, c.n)
	}
}

// As many inputs as the Width, from 1 to 64, used or not.
func TestFitsByInputs(t *testing.T) {
	for _, f := range sample.Fields() {
		for width := 1; width <= 64; width++ {
			p := sample.With(sample.Plan(4, 2, 1, 0, 0, 2), f, width)
			for inputs := range 65 {
				e := api.OK
				if inputs != width {
					e = api.ErrArg
				}
				for _, prog := range []api.Prog{{Inputs: inputs}, {Inputs: inputs, Outs: sample.Inputs(inputs)}, {Inputs: inputs, Ops: ops(constant(4)), Outs: outs(inputs)}} {
					wantFits(t, p, prog, e)
				}
			}
		}
	}
}

// Whether a plan is accepted is not asked.
func TestPlansThatAreNotAccepted(t *testing.T) {
	accepted := map[bool]int{}
	for _, silent := range []int{0, 1, 64} {
		for _, faulty := range []int{0, 2, 64} {
			for _, d := range []int{2, 3, 1024} {
				for _, n := range []int{4, 64} {
					p := sample.Plan(n, 2, 1, silent, faulty, d)
					accepted[plan.Accept(p) == api.OK]++
					wantFits(t, p, raised(1, 2), api.OK)
					wantReply(t, p, raised(1, 2), l(11), l(121), api.OK)
					wantResults(t, p, raised(1, 2), single(5, 7), single(25, 49), api.OK)
					wantPolys(t, p, raised(1, 2), single(5, 7), single(9), lists(l(25, 20, 4)), api.OK)
					wantHonest(t, p, raised(1, 2), single(5, 7), single(9), 3, l(289), api.OK)
				}
			}
		}
	}
	if accepted[true] == 0 || accepted[false] == 0 {
		t.Errorf("so many are accepted: %v", accepted)
	}
}

func TestReply(t *testing.T) {
	asked := 0
	everywhere(func(p api.Plan, prog api.Prog, r round) {
		for _, block := range slices.Concat(r.data, r.pads, sample.EdgeBlocks(p.Field, 5, 3, p.Width)) {
			want, e := eval.Run(p.Field, prog, block)
			if e != api.OK || len(want) != len(prog.Outs) {
				t.Fatalf("Run(%s): %d", briefProg(prog), e)
			}
			wantReply(t, p, prog, block, want, api.OK)
			asked++
		}
	})
	if asked < 5000 {
		t.Errorf("only %d were asked", asked)
	}
}

func TestResults(t *testing.T) {
	everywhere(func(p api.Plan, prog api.Prog, r round) {
		var want [][]uint64
		for _, block := range r.data {
			result, e := eval.Run(p.Field, prog, block)
			if e != api.OK {
				t.Fatalf("Run(%s): %d", briefProg(prog), e)
			}
			want = append(want, result)
		}
		wantResults(t, p, prog, r.data, want, api.OK)
	})
}

// What comes out of nothing, of an input that is not used, of a step that nothing hangs on, twice, 64 times; past the prime.
func TestRepliesByHand(t *testing.T) {
	for _, f := range sample.Fields() {
		top := sample.Prime(f) - 1
		for _, c := range []struct {
			width, d int
			prog     api.Prog
			share    []uint64
			reply    []uint64
		}{
			{1, 0, api.Prog{Inputs: 1}, l(4), nil},
			{1, 0, api.Prog{Inputs: 1, Ops: ops(constant(7)), Outs: outs(1)}, l(4), l(7)},
			{1, 0, api.Prog{Inputs: 1, Ops: ops(constant(top+1), constant(top+3)), Outs: outs(2, 1, 2)}, l(4), l(2, 0, 2)},
			{1, 1, api.Prog{Inputs: 1, Outs: outs(0)}, l(top), l(top)},
			{1, 1, api.Prog{Inputs: 1, Outs: outs(0, 0)}, l(0), l(0, 0)},
			{1, 1, api.Prog{Inputs: 1, Outs: slices.Repeat(outs(0), 64)}, l(6), slices.Repeat(l(6), 64)},
			{1, 1, withOuts(sample.Squares(256), 0), l(3), l(3)},
			{1, 4, withOuts(sample.Squares(256), 2, 0, 1), l(3), l(81, 3, 9)},
			{1, 2, raised(1, 2), l(0), l(0)},
			{1, 2, raised(1, 2), l(top), l(1)},
			{1, 3, raised(1, 3), l(top), l(top)},
			{1, 1, api.Prog{Inputs: 1, Ops: ops(step(api.OAdd, 0, 0)), Outs: outs(1)}, l(top), l(top - 1)},
			{2, 1, api.Prog{Inputs: 2, Ops: ops(step(api.OSub, 0, 1)), Outs: outs(2)}, l(3, 5), l(top - 1)},
			{2, 2, api.Prog{Inputs: 2, Ops: ops(step(api.OMul, 0, 1), step(api.OAdd, 2, 0), constant(5)), Outs: outs(3)}, l(3, 5), l(18)},
			{3, 2, api.Prog{Inputs: 3, Ops: ops(step(api.OMul, 2, 2)), Outs: outs(3, 0)}, l(top, top, 10), l(100, top)},
			{3, 1, api.Prog{Inputs: 3, Outs: outs(2, 1, 0)}, l(1, 2, 3), l(3, 2, 1)},
		} {
			for _, k := range []int{1, 2, 64} {
				p := sample.With(sample.Plan(3, k, 0, 0, 0, c.d), f, c.width)
				wantReply(t, p, c.prog, c.share, c.reply, api.OK)
				wantResults(t, p, c.prog, slices.Repeat(lists(c.share), k), slices.Repeat(lists(c.reply), k), api.OK)
				// Blocks that are all the same have constant polynomials, and so the same shares.
				wantHonest(t, p, c.prog, slices.Repeat(lists(c.share), k), nil, 2, c.reply, api.OK)
			}
		}
	}
}

// As many of all as there may be: the sum of all elements, and their squares, of 64 blocks.
func TestRepliesAtTheLimits(t *testing.T) {
	sums := api.Prog{Inputs: 64, Ops: ops(step(api.OAdd, 0, 1))}
	for i := 2; i < 64; i++ {
		sums.Ops = append(sums.Ops, step(api.OAdd, 62+i, i))
	}
	sums.Outs = outs(126)
	squares := api.Prog{Inputs: 64}
	for i := range 64 {
		squares.Ops, squares.Outs = append(squares.Ops, step(api.OMul, i, i)), append(squares.Outs, 64+i)
	}
	for _, f := range sample.Fields() {
		for _, c := range []struct{ n, k, t int }{{64, 64, 0}, {64, 1, 63}, {1, 64, 0}, {1, 1, 0}, {64, 32, 32}, {1, 1, 63}} {
			p := sample.With(sample.Plan(c.n, c.k, c.t, 0, 0, 2), f, 64)
			// The element of the block b at the place w is b + w, so that the polynomial there is x + w.
			var blocks, sum, square, polys [][]uint64
			for b := range uint64(c.k + c.t + c.n) {
				var block, squared []uint64
				for w := range uint64(64) {
					block, squared = append(block, b+w), append(squared, (b+w)*(b+w))
				}
				blocks, sum, square = append(blocks, block), append(sum, l(64*b+2016)), append(square, squared)
			}
			for w := range uint64(64) {
				polys = append(polys, l(w*w, 2*w, 1))
			}
			inner := c.k + c.t
			data, pads := blocks[:c.k], blocks[c.k:inner]
			if inner == 1 {
				// Then there is but one point, and each polynomial is its element.
				blocks[1], sum[1], square[1], polys = blocks[0], sum[0], square[0], nil
				for w := range uint64(64) {
					polys = append(polys, slices.DeleteFunc(l(w*w), func(a uint64) bool { return a == 0 }))
				}
			}
			wantResults(t, p, sums, data, sum[:c.k], api.OK)
			wantResults(t, p, squares, data, square[:c.k], api.OK)
			wantPolys(t, p, squares, data, pads, polys, api.OK)
			for worker := range c.n {
				if worker > 0 && worker < c.n-1 && worker%20 > 0 {
					continue
				}
				wantHonest(t, p, sums, data, pads, worker, sum[inner+worker], api.OK)
				wantHonest(t, p, squares, data, pads, worker, square[inner+worker], api.OK)
				wantReply(t, p, squares, blocks[inner+worker], square[inner+worker], api.OK)
			}
		}
	}
}

// P16.2

func TestPolys(t *testing.T) {
	told := map[api.Errno]int{}
	everywhere(func(p api.Plan, prog api.Prog, r round) {
		polys, e := share.Polys(p, r.data, r.pads)
		if e != api.OK {
			t.Fatalf("share.Polys(%v): %d", p, e)
		}
		want, e := eval.Compose(p.Field, prog, polys)
		wantPolys(t, p, prog, r.data, r.pads, want, e)
		told[e]++
	})
	if told[api.OK] < 2000 || told[api.ErrLimit] < 5 || len(told) != 2 {
		t.Errorf("the errors were told so often: %v", told)
	}
}

func TestHonest(t *testing.T) {
	asked := 0
	everywhere(func(p api.Plan, prog api.Prog, r round) {
		for _, worker := range someWorkers(p) {
			mine, e := share.Share(p, r.data, r.pads, worker)
			if e != api.OK {
				t.Fatalf("share.Share(%v, .., %d): %d", p, worker, e)
			}
			want, e := Reply(p, prog, mine)
			if e != api.OK || len(want) != len(prog.Outs) {
				t.Fatalf("Reply(%v, %s): %d", p, briefProg(prog), e)
			}
			wantHonest(t, p, prog, r.data, r.pads, worker, want, api.OK)
			asked++
		}
	})
	if asked < 5000 {
		t.Errorf("only %d were asked", asked)
	}
}

func TestComposedByHand(t *testing.T) {
	for _, f := range sample.Fields() {
		top := sample.Prime(f) - 1
		product := api.Prog{Inputs: 2, Ops: ops(step(api.OMul, 0, 1)), Outs: outs(2)}
		for _, c := range []struct {
			n, k, t, width, d int
			prog              api.Prog
			data, pads, polys [][]uint64
			honest            [][]uint64
		}{
			// 5 + 2 x, at 3 to 6.
			{4, 2, 1, 1, 2, raised(1, 2), single(5, 7), single(9), lists(l(25, 20, 4)), single(121, 169, 225, 289)},
			{4, 2, 1, 1, 1, raised(1, 1), single(5, 7), single(9), lists(l(5, 2)), single(11, 13, 15, 17)},
			{4, 2, 1, 1, 3, raised(1, 0), single(5, 7), single(9), lists(l(1)), single(1, 1, 1, 1)},
			{2, 2, 1, 1, 0, api.Prog{Inputs: 1}, single(5, 7), single(9), nil, lists(nil, nil)},
			// One of Outs twice, and each of 64.
			{2, 2, 1, 1, 1, api.Prog{Inputs: 1, Outs: outs(0, 0)}, single(5, 7), single(9), lists(l(5, 2), l(5, 2)), lists(l(11, 11), l(13, 13))},
			{1, 2, 1, 1, 1, api.Prog{Inputs: 1, Outs: slices.Repeat(outs(0), 64)}, single(5, 7), single(9), slices.Repeat(lists(l(5, 2)), 64), lists(slices.Repeat(l(11), 64))},
			// A step that nothing comes out of, an input that is not used.
			{1, 2, 1, 1, 1, withOuts(sample.Squares(256), 0), single(5, 7), single(9), lists(l(5, 2)), single(11)},
			{1, 2, 1, 2, 2, raised(2, 2), lists(l(1, 5), l(top, 7)), lists(l(0, 9)), lists(l(25, 20, 4)), single(121)},
			// (5 + 2 x) x^2.
			{2, 2, 1, 2, 2, product, lists(l(5, 0), l(7, 1)), lists(l(9, 4)), lists(l(0, 0, 5, 2)), single(99, 208)},
			// No pad; one block; both.
			{3, 2, 0, 1, 2, raised(1, 2), single(5, 7), nil, lists(l(25, 20, 4)), single(81, 121, 169)},
			{2, 1, 1, 1, 2, raised(1, 2), single(5), single(7), lists(l(25, 20, 4)), single(81, 121)},
			{2, 1, 0, 1, 2, raised(1, 2), single(6), nil, lists(l(36)), single(36, 36)},
			// What falls away: the polynomial 0, and a square less a square.
			{2, 2, 0, 1, 2, raised(1, 2), single(0, 0), nil, lists(nil), single(0, 0)},
			{2, 2, 0, 1, 2, api.Prog{Inputs: 1, Ops: ops(step(api.OMul, 0, 0), step(api.OSub, 1, 1)), Outs: outs(2, 0)}, single(5, 7), nil, lists(nil, l(5, 2)), lists(l(0, 9), l(0, 11))},
			{1, 1, 0, 1, 0, api.Prog{Inputs: 1, Ops: ops(constant(0), constant(top+1)), Outs: outs(1, 2)}, single(5), nil, lists(nil, nil), lists(l(0, 0))},
			// Past the prime: -1 + x.
			{3, 1, 1, 1, 2, raised(1, 2), single(top), single(0), lists(l(1, top-1, 1)), single(1, 4, 9)},
			{2, 1, 1, 1, 3, raised(1, 3), single(0), single(top), lists(l(0, 0, 0, top)), single(top-7, top-26)},
			{2, 2, 1, 1, 2, raised(1, 2), single(top, top), single(top), lists(l(1)), single(1, 1)},
		} {
			p := sample.With(sample.Plan(c.n, c.k, c.t, 0, 0, c.d), f, c.width)
			wantPolys(t, p, c.prog, c.data, c.pads, c.polys, api.OK)
			for worker, reply := range c.honest {
				wantHonest(t, p, c.prog, c.data, c.pads, worker, reply, api.OK)
			}
		}
	}
}

// powers are the blocks at the points from 0 on, n of them, of the polynomial x^d.
func powers(f api.Field, d, n int) (blocks [][]uint64) {
	for x := range uint64(n) {
		y, _ := field.Pow(f, x, uint64(d))
		blocks = append(blocks, l(y))
	}
	return blocks
}

// The program's degree times that of the blocks' polynomials, just below the limit, and at it; what the plan's Degree and K + T would come to does not matter.
func TestPolysAtTheLimit(t *testing.T) {
	for _, f := range sample.Fields() {
		for _, c := range []struct{ n, d int }{
			{1, 1024}, {3, 1024}, {4, 1023}, {4, 1024}, {5, 819}, {5, 820}, {63, 65}, {63, 66}, {15, 273}, {16, 256}, {16, 255}, {32, 128}, {62, 67}, {63, 1024}, {0, 1024},
		} {
			for _, inner := range []int{c.n + 1, 64} {
				blocks := powers(f, c.n, inner)
				for k, most := range map[int]int{1: c.d, inner: 1024} {
					p := sample.With(sample.Plan(1, k, inner-k, 0, 0, most), f, 1)
					want, e := lists(sample.Power(c.n*c.d)), api.OK
					if c.n*c.d >= 4096 {
						want, e = nil, api.ErrLimit
					}
					wantPolys(t, p, raised(1, c.d), blocks[:k], blocks[k:], want, e)
					// The others have no such limit.
					wantFits(t, p, raised(1, c.d), api.OK)
					wantResults(t, p, raised(1, c.d), blocks[:k], powers(f, c.n*c.d, k), api.OK)
					wantHonest(t, p, raised(1, c.d), blocks[:k], blocks[k:], 0, powers(f, c.n*c.d, inner+1)[inner], api.OK)
				}
			}
		}
	}
}

// The greatest degree of all places counts, and that of the whole program, whichever place comes out in which degree.
func TestPolysAtTheLimitByPlaces(t *testing.T) {
	for _, f := range sample.Fields() {
		p := sample.With(sample.Plan(1, 5, 0, 0, 0, 1024), f, 2)
		var data [][]uint64
		for i, high := range powers(f, 4, 5) {
			data = append(data, l(uint64(i), high[0]))
		}
		// The place 0 has the polynomial x, the place 1 has x^4; the power 1024 of x comes out.
		low, _ := slp.After(sample.Raise(1024), api.Prog{Inputs: 2, Outs: outs(0)})
		wantPolys(t, p, low, data, nil, nil, api.ErrLimit)
		less, _ := slp.After(sample.Raise(1023), api.Prog{Inputs: 2, Outs: outs(0)})
		wantPolys(t, p, less, data, nil, lists(sample.Power(1023)), api.OK)
		// A step that nothing comes out of does not count.
		wantPolys(t, p, withOuts(low, 0, 1), data, nil, lists(l(0, 1), l(0, 0, 0, 0, 1)), api.OK)
	}
}

// The examples of the chapter.

func TestExamples(t *testing.T) {
	p := sample.Plan(4, 2, 1, 0, 0, 2)
	square, cube := api.Prog{Inputs: 1, Ops: ops(step(api.OMul, 0, 0)), Outs: outs(1)}, api.Prog{Inputs: 1, Ops: ops(step(api.OMul, 0, 0), step(api.OMul, 1, 0)), Outs: outs(2)}
	wantFits(t, p, square, api.OK)
	wantFits(t, p, cube, api.ErrArg)
	wantReply(t, p, square, l(11), l(121), api.OK)
	wantReply(t, p, square, l(1, 2), nil, api.ErrShape)
	wantResults(t, p, square, single(5, 7), single(25, 49), api.OK)
	wantPolys(t, p, square, single(5, 7), single(9), lists(l(25, 20, 4)), api.OK)
	wantHonest(t, p, square, single(5, 7), single(9), 0, l(121), api.OK)
}
