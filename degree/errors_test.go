package degree

// P10.1 and P10.2: the errors, which of them comes first, and what stands beside them.

import (
	"math"
	"slices"
	"testing"

	"conclave/api"
	"conclave/sample"
)

// wantNone has all calls answer ErrArg, and nothing beside it.
func wantNone(t *testing.T, p api.Prog) {
	t.Helper()
	wantAll(t, p, nil, api.ErrArg)
	wantOf(t, p, 0, api.ErrArg)
	wantUses(t, p, nil, api.ErrArg)
	wantTrim(t, p, api.Prog{}, api.ErrArg)
}

func TestNoProgram(t *testing.T) {
	for _, p := range sample.NoProgs() {
		wantNone(t, p)
	}
}

// A fault in what nothing hangs on, or where nothing comes out, is one all the same.
func TestFaultsThatNothingHangsOn(t *testing.T) {
	for _, op := range ops(api.Op{}, api.Op{Kind: 5}, api.Op{Kind: 255, A: 1}, step(api.OAdd, 0, 3), step(api.OSub, 3, 0), step(api.OMul, -1, 0), step(api.OMul, 0, math.MaxInt), api.Op{Kind: api.OAdd, C: 1}, api.Op{Kind: api.OConst, A: 1}, api.Op{Kind: api.OConst, B: -1}) {
		p := api.Prog{Inputs: 2, Ops: ops(step(api.OMul, 0, 1), op, constant(4))}
		wantNone(t, p)
		wantNone(t, withOuts(p, 0))
		wantNone(t, withOuts(p, 2, 4))
	}
	// As much of all as there may be, and one more of one.
	full := api.Prog{Inputs: 64, Ops: slices.Repeat(ops(step(api.OAdd, 63, 0)), 256), Outs: slices.Repeat(outs(319), 64)}
	wantDegrees(t, full)
	wantUses(t, full, outs(0, 63), api.OK)
	wantTrim(t, full, api.Prog{Inputs: 64, Ops: full.Ops[255:], Outs: slices.Repeat(outs(64), 64)}, api.OK)
	wantNone(t, api.Prog{Inputs: 65, Ops: full.Ops, Outs: full.Outs})
	wantNone(t, api.Prog{Inputs: 64, Ops: slices.Repeat(ops(step(api.OAdd, 63, 0)), 257), Outs: full.Outs})
	wantNone(t, withOuts(full, slices.Repeat(outs(319), 65)...))
	wantNone(t, withOuts(full, 320))
}

// Where a degree is above the bound, and the program may not be, it is ErrArg, wherever the fault stands.
func TestNoProgramComesFirst(t *testing.T) {
	for _, n := range []int{11, 63, 64, 65, 200, 256} {
		for _, faulty := range []func(p *api.Prog){
			func(p *api.Prog) { p.Inputs = -1 },
			func(p *api.Prog) { p.Inputs = 65 },
			func(p *api.Prog) { p.Inputs = math.MinInt },
			func(p *api.Prog) { p.Inputs = math.MaxInt },
			func(p *api.Prog) { p.Ops[0].Kind = api.NoOp },
			func(p *api.Prog) { p.Ops[n-1].Kind = 5 },
			func(p *api.Prog) { p.Ops[n-1].A++ },
			func(p *api.Prog) { p.Ops[n-1].B = -1 },
			func(p *api.Prog) { p.Ops[n/2].C = 1 },
			func(p *api.Prog) { p.Ops[n/2].Kind = api.OConst },
			func(p *api.Prog) { p.Ops = append(p.Ops, constants(257-n)...) },
			func(p *api.Prog) { p.Outs = append(p.Outs, n+1) },
			func(p *api.Prog) { p.Outs = append(p.Outs, -1) },
			func(p *api.Prog) { p.Outs = slices.Repeat(p.Outs, 65) },
		} {
			p := sample.Squares(n)
			wantOf(t, p, 0, api.ErrLimit)
			faulty(&p)
			wantNone(t, p)
		}
	}
}

func constants(n int) []api.Op { return slices.Repeat(ops(constant(7)), n) }

// Which inputs are used, and which steps are wanted, has no bound.
func TestUsesAndTrimPastTheBound(t *testing.T) {
	for _, p := range []api.Prog{sample.Raise(1025), sample.Raise(1300), sample.Squares(11), sample.Squares(64), sample.Squares(255)} {
		wantOf(t, p, 0, api.ErrLimit)
		wantUses(t, p, outs(0), api.OK)
		wantTrim(t, p, p, api.OK)
		if len(p.Ops) < 255 {
			longer := api.Prog{Inputs: 1, Ops: append(slices.Clone(p.Ops), constant(3), step(api.OMul, last(p), last(p))), Outs: p.Outs}
			wantTrim(t, longer, p, api.OK)
		}
	}
}
