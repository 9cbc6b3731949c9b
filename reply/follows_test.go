package reply

// P16.3: what follows.

import (
	"slices"
	"testing"

	"conclave/api"
	"conclave/degree"
	"conclave/interp"
	"conclave/plan"
	"conclave/points"
	"conclave/poly"
	"conclave/sample"
)

// composed does it with all plans, programs and rounds of which there are composed polynomials.
func composed(t *testing.T, do func(p api.Plan, prog api.Prog, r round, polys [][]uint64)) {
	t.Helper()
	asked := 0
	everywhere(func(p api.Plan, prog api.Prog, r round) {
		polys, e := Polys(p, prog, r.data, r.pads)
		if e == api.ErrLimit {
			return
		}
		if e != api.OK || len(polys) != len(prog.Outs) {
			t.Fatalf("Polys(%v, %s) has %d, %d", p, briefProg(prog), len(polys), e)
		}
		do(p, prog, r, polys)
		asked++
	})
	if asked < 2000 {
		t.Errorf("only %d were asked", asked)
	}
}

// at are the values of all polynomials at one point.
func at(f api.Field, polys [][]uint64, x uint64) (values []uint64) {
	for _, polynomial := range polys {
		value, _ := poly.Eval(f, polynomial, x)
		values = append(values, value)
	}
	return values
}

func TestDegrees(t *testing.T) {
	reached := 0
	composed(t, func(p api.Plan, prog api.Prog, r round, polys [][]uint64) {
		most, _ := plan.Degree(p)
		n, _ := degree.Of(prog)
		bound := n * (p.K + p.T - 1)
		if bound > most {
			t.Errorf("%v, %s: %d, though the plan's degree is %d", p, briefProg(prog), bound, most)
		}
		for _, polynomial := range polys {
			if poly.Degree(polynomial) > bound || len(polynomial) != poly.Degree(polynomial)+1 {
				t.Errorf("Polys(%v, %s) has one of the degree %d, in %d elements, not of %d", p, briefProg(prog), poly.Degree(polynomial), len(polynomial), bound)
			}
			if bound > 1 && poly.Degree(polynomial) == most {
				reached++
			}
		}
	})
	if reached < 100 {
		t.Errorf("the plan's degree was reached only %d times", reached)
	}
}

// At a data block's point, a worker's point, and at a pad's, as if the pad were a share.
func TestWhatLiesOnThePolys(t *testing.T) {
	composed(t, func(p api.Plan, prog api.Prog, r round, polys [][]uint64) {
		var values [][]uint64
		data, _ := points.Data(p)
		for _, x := range data {
			values = append(values, at(p.Field, polys, x))
		}
		wantResults(t, p, prog, r.data, values, api.OK)
		workers, _ := points.Workers(p)
		for _, worker := range someWorkers(p) {
			wantHonest(t, p, prog, r.data, r.pads, worker, at(p.Field, polys, workers[worker]), api.OK)
		}
		if p.T > 0 {
			pads, _ := points.Pads(p)
			wantReply(t, p, prog, r.pads[p.T-1], at(p.Field, polys, pads[p.T-1]), api.OK)
		}
	})
}

// All workers of some plans, those of the greatest and the least among them.
func TestAllHonestRepliesLieOnThePolys(t *testing.T) {
	for _, f := range sample.Fields() {
		for _, p := range []api.Plan{sample.Plan(64, 2, 1, 0, 0, 3), sample.Plan(64, 60, 4, 0, 0, 3), sample.Plan(1, 1, 0, 0, 0, 3), sample.Plan(11, 3, 1, 0, 2, 2)} {
			p = sample.With(p, f, 3)
			r := rounds(p)[0]
			xs, _ := points.Workers(p)
			for _, prog := range programs(p) {
				polys, e := Polys(p, prog, r.data, r.pads)
				if e != api.OK {
					t.Fatalf("Polys(%v, %s): %d", p, briefProg(prog), e)
				}
				for worker, x := range xs {
					wantHonest(t, p, prog, r.data, r.pads, worker, at(f, polys, x), api.OK)
				}
			}
		}
	}
}

// Steps that nothing comes out of change nothing; where they are trimmed away, the program still fits.
func TestTrimmedPrograms(t *testing.T) {
	everywhere(func(p api.Plan, prog api.Prog, r round) {
		less, _ := degree.Trim(prog)
		wantFits(t, p, less, api.OK)
		results, _ := Results(p, prog, r.data)
		wantResults(t, p, less, r.data, results, api.OK)
	})
}

// The degree that a plan has is reached: by a power of blocks whose polynomial is itself as high as it may be.
func TestDegreesAreReached(t *testing.T) {
	for _, f := range sample.Fields() {
		for _, c := range []struct{ k, t, d int }{{1, 0, 5}, {1, 1, 7}, {2, 1, 2}, {3, 2, 9}, {1, 63, 65}, {64, 0, 65}, {4, 0, 1024}} {
			p := sample.With(sample.Plan(2, c.k, c.t, 0, 0, c.d), f, 1)
			blocks := powers(f, c.k+c.t-1, c.k+c.t)
			most, _ := plan.Degree(p)
			wantPolys(t, p, raised(1, c.d), blocks[:c.k], blocks[c.k:], lists(sample.Power(most)), api.OK)
		}
	}
}

// Enough workers' honest replies tell the results: the polynomial through them is the composed one.
func TestHonestRepliesTellTheResults(t *testing.T) {
	for _, f := range sample.Fields() {
		p := sample.With(sample.Plan(11, 3, 1, 0, 2, 2), f, 2)
		n, _ := plan.Needed(p)
		for _, r := range rounds(p) {
			for _, prog := range programs(p) {
				polys, _ := Polys(p, prog, r.data, r.pads)
				for _, who := range sample.SomeChoices(p.N, n-2*p.E) {
					var replies [][]uint64
					for _, worker := range who {
						reply, _ := Honest(p, prog, r.data, r.pads, worker)
						replies = append(replies, reply)
					}
					for out := range prog.Outs {
						wantThrough(t, p, who, replies, out, polys[out])
					}
				}
			}
		}
	}
}

// wantThrough has the replies of who lie, at the place out, on this polynomial, and on none else of the plan's degree.
func wantThrough(t *testing.T, p api.Plan, who []int, replies [][]uint64, out int, polynomial []uint64) {
	t.Helper()
	workers, _ := points.Workers(p)
	var xs, ys []uint64
	for i, worker := range who {
		xs, ys = append(xs, workers[worker]), append(ys, replies[i][out])
	}
	if got, e := interp.Through(p.Field, xs, ys); e != api.OK || !slices.Equal(got, polynomial) {
		t.Errorf("%v: through the replies of %v goes %s, not %s", p, who, sample.Brief(got), sample.Brief(polynomial))
	}
}
