package regain

// P18.4: what follows.

import (
	"slices"
	"testing"

	"conclave/api"
	"conclave/reply"
	"conclave/sample"
	"conclave/slp"
)

// round is data blocks with pads.
type round struct{ data, pads [][]uint64 }

// rounds are of elements without any order, of edges, of 0 and one less than the prime alone.
func rounds(p api.Plan) []round {
	f, k, pads, width := p.Field, p.K, p.T, p.Width
	top := sample.Prime(f) - 1
	return []round{
		{sample.Blocks(f, p.N, k, width), sample.Blocks(f, k*width+p.N, pads, width)},
		{sample.EdgeBlocks(f, 3, k, width), sample.EdgeBlocks(f, 8, pads, width)},
		{sample.EqualBlocks(0, k, width), sample.EqualBlocks(top, pads, width)},
		{sample.EqualBlocks(top, k, width), sample.EqualBlocks(0, pads, width)},
	}
}

// raised has so many inputs, and the power n of the last one comes out, 1 for an n of 0.
func raised(inputs, n int) api.Prog {
	if n == 0 {
		return api.Prog{Inputs: inputs, Ops: []api.Op{{Kind: api.OConst, C: 1}}, Outs: at(inputs)}
	}
	prog, _ := slp.After(sample.Raise(n), api.Prog{Inputs: inputs, Outs: at(inputs - 1)})
	return prog
}

// programs are such as fit a plan: with no Outs, with all inputs, with as many Outs as there may be, one of just the plan's Degree, and some without any order.
func programs(p api.Plan) []api.Prog {
	w := p.Width
	all := []api.Prog{
		{Inputs: w},
		{Inputs: w, Outs: sample.Inputs(w)},
		{Inputs: w, Outs: slices.Repeat(at(w-1), 64)},
		{Inputs: w, Ops: []api.Op{{Kind: api.OConst, C: 7}, {Kind: api.OSub, A: 0, B: w - 1}}, Outs: at(w, w+1, w)},
		raised(w, p.Degree),
	}
	for from := range 4 {
		all = append(all, sample.Prog(40*from, w, 1+3*from, 1+from), sample.Steep(30*from, w, 2+from, 3))
	}
	return slices.DeleteFunc(all, func(prog api.Prog) bool { return reply.Fits(p, prog) != api.OK })
}

// honest are the honest replies of all workers.
func honest(t *testing.T, p api.Plan, prog api.Prog, it round) []api.Reply {
	t.Helper()
	all := make([]api.Reply, p.N)
	for worker := range all {
		values, e := reply.Honest(p, prog, it.data, it.pads, worker)
		if e != api.OK {
			t.Fatalf("Honest(%v, %s, %d): %d", p, brief(prog), worker, e)
		}
		all[worker] = api.Reply{Worker: worker, Values: values}
	}
	return all
}

// game is a plan, a program that fits, a round, its honest replies, and what is right to be told of them.
type game struct {
	p      api.Plan
	prog   api.Prog
	it     round
	honest []api.Reply
	right  api.Result
}

func gameOf(t *testing.T, p api.Plan, prog api.Prog, it round) game {
	t.Helper()
	results, e := reply.Results(p, prog, it.data)
	polys, e2 := reply.Polys(p, prog, it.data, it.pads)
	if e != api.OK || e2 != api.OK {
		t.Fatalf("%v, %s: %d, %d", p, brief(prog), e, e2)
	}
	return game{p, prog, it, honest(t, p, prog, it), api.Result{Results: results, Polys: polys}}
}

// chosen are some of all workers' replies.
func chosen(all []api.Reply, who []int) []api.Reply {
	l := make([]api.Reply, len(who))
	for i, worker := range who {
		l[i] = all[worker]
	}
	return l
}

// want has Recover tell the right results, and, as the wrong workers, just those whose replies differ from the honest ones.
func (g game) want(t *testing.T, l []api.Reply) {
	t.Helper()
	told := g.right
	for _, r := range l {
		if !slices.Equal(r.Values, g.honest[r.Worker].Values) {
			told.Wrong = append(told.Wrong, r.Worker)
		}
	}
	slices.Sort(told.Wrong)
	wantRecover(t, g.p, len(g.prog.Outs), l, told, api.OK)
}

// lies are what workers may say in the place of their honest replies, for each of them a list of as many values: 0, the greatest element, ones of no order, the next worker's, those of another round (all of which lie on polynomials of the right degree), and the honest ones but for the first or for the last value.
func (g game) lies(t *testing.T) [][]api.Reply {
	t.Helper()
	f, outs := g.p.Field, len(g.prog.Outs)
	top := sample.Prime(f) - 1
	another := round{sample.Blocks(f, 77, g.p.K, g.p.Width), sample.Blocks(f, 99, g.p.T, g.p.Width)}
	all := make([][]api.Reply, 6)
	for worker, mine := range g.honest {
		first, last := slices.Clone(mine.Values), slices.Clone(mine.Values)
		if outs > 0 {
			first[0], last[outs-1] = otherThan(f, first[0], worker), otherThan(f, last[outs-1], worker+1)
		}
		for i, values := range lists(make([]uint64, outs), slices.Repeat(l(top), outs), sample.Run(f, 9*worker, outs), g.honest[(worker+1)%g.p.N].Values, first, last) {
			all[i] = append(all[i], r(worker, values...))
		}
	}
	return append(all, honest(t, g.p, g.prog, another))
}

// told has the replies of who, of which those at some places of the list say something else.
func (g game) told(lies []api.Reply, who, places []int) []api.Reply {
	l := chosen(g.honest, who)
	for _, i := range places {
		l[i] = lies[who[i]]
	}
	return l
}

// games are with all plans of a list, with their programs and rounds in turn.
func games(t *testing.T, plans []api.Plan, do func(g game)) {
	t.Helper()
	for i, p := range plans {
		all := rounds(p)
		for j, prog := range programs(p) {
			if p.N > 20 && (i+j)%3 > 0 {
				continue
			}
			do(gameOf(t, p, prog, all[(i+j)%len(all)]))
		}
	}
}

// some are a part of the plans of few workers, and all others.
func some() []api.Plan {
	var plans []api.Plan
	for i, p := range few() {
		if i%3 == 0 {
			plans = append(plans, p)
		}
	}
	return append(plans, many()...)
}

// Where nobody lies: of as many replies as the plan needs, of more, of all.
func TestHonestRepliesTellTheResults(t *testing.T) {
	asked := 0
	games(t, append(few(), many()...), func(g game) {
		for i, n := range counts(g.p) {
			who := sample.SomeChoices(g.p.N, n)[(asked+i)%5]
			g.want(t, chosen(g.honest, who))
		}
		asked++
	})
	if asked < 1000 {
		t.Errorf("only %d were asked", asked)
	}
}

// One fewer than are needed tell nothing, lies or not.
func TestOneFewerTellsNothing(t *testing.T) {
	games(t, some(), func(g game) {
		l := chosen(g.honest, sample.Mixed(1, g.p.N)[1:needed(g.p)])
		wantRecover(t, g.p, len(g.prog.Outs), l, api.Result{}, api.ErrShort)
	})
}

// Any at most E workers, whatever they say.
func TestLiarsChangeNothing(t *testing.T) {
	asked := 0
	games(t, some(), func(g game) {
		if g.p.E == 0 {
			return
		}
		for i, lies := range g.lies(t) {
			for j, n := range counts(g.p) {
				who := sample.SomeChoices(g.p.N, n)[(i+j)%5]
				for _, liars := range slices.Compact([]int{1, g.p.E}) {
					places := sample.SomeChoices(n, liars)[(asked+i+j)%5]
					g.want(t, g.told(lies, who, places))
				}
			}
		}
		asked++
	})
	if asked < 300 {
		t.Errorf("only %d were asked", asked)
	}
}

// Every choice of liars among few workers, and every choice of who stays silent.
func TestEveryChoiceOfLiars(t *testing.T) {
	for _, f := range sample.Fields() {
		for _, p := range []api.Plan{sample.Plan(6, 2, 1, 1, 1, 1), sample.Plan(7, 1, 1, 0, 2, 2), sample.Plan(7, 2, 0, 2, 2, 0), sample.Plan(6, 1, 0, 0, 2, 5)} {
			p = sample.With(p, f, 2)
			for i, prog := range programs(p) {
				g := gameOf(t, p, prog, rounds(p)[i%4])
				lies := g.lies(t)[i%7]
				for n := needed(p); n <= p.N; n++ {
					for _, who := range sample.EveryChoice(p.N, n) {
						for liars := range p.E + 1 {
							for _, places := range sample.EveryChoice(n, liars) {
								g.want(t, g.told(lies, who, places))
							}
						}
					}
				}
			}
		}
	}
}

// Each liar says something else: in another out, of another kind.
func TestLiarsOfAllKinds(t *testing.T) {
	for _, f := range sample.Fields() {
		p := sample.With(sample.Plan(24, 3, 1, 0, 7, 2), f, 2)
		for i, prog := range programs(p) {
			g := gameOf(t, p, prog, rounds(p)[i%4])
			lies := g.lies(t)
			for from := range 6 {
				l := chosen(g.honest, sample.Mixed(from, 24)[:needed(p)+from%3])
				for place := range 7 {
					l[3*place] = lies[(place+i)%7][l[3*place].Worker]
				}
				g.want(t, l)
			}
		}
	}
}

// In whatever order the replies stand, the result is the same: all orders of few, some of many; where nothing can be told, too.
func TestInWhateverOrder(t *testing.T) {
	for _, f := range sample.Fields() {
		p := sample.With(sample.Plan(5, 2, 1, 0, 1, 1), f, 1)
		g := gameOf(t, p, api.Prog{Inputs: 1, Outs: at(0)}, rounds(p)[0])
		l := g.told(g.lies(t)[2], sample.Inputs(5), at(3))
		for _, order := range orders(sample.Inputs(5)) {
			g.want(t, chosen(l, order))
			wantMany(t, p, 1, turned(p, chosen(l, order), 0, slices.Index(order, 1)))
		}
	}
	games(t, many(), func(g game) {
		for _, liars := range []int{0, g.p.E, min(g.p.E+1, g.p.N)} {
			l := g.told(g.lies(t)[2], sample.Inputs(g.p.N), sample.Mixed(3, g.p.N)[:liars])
			first, e := Recover(g.p, len(g.prog.Outs), l...)
			for from := range 3 {
				wantRecover(t, g.p, len(g.prog.Outs), chosen(l, sample.Mixed(from, g.p.N)), first, e)
			}
		}
	})
}

// orders are all orders of a list.
func orders(l []int) [][]int {
	if len(l) == 0 {
		return [][]int{nil}
	}
	var all [][]int
	for i := range l {
		for _, rest := range orders(slices.Delete(slices.Clone(l), i, i+1)) {
			all = append(all, append(at(l[i]), rest...))
		}
	}
	return all
}

// More replies, as long as no more lie, tell the same.
func TestMoreReplies(t *testing.T) {
	for _, f := range sample.Fields() {
		p := sample.With(sample.Plan(20, 2, 1, 0, 3, 2), f, 2)
		for i, prog := range programs(p) {
			g := gameOf(t, p, prog, rounds(p)[i%4])
			who := sample.Mixed(i, 20)
			for n := needed(p); n <= p.N; n++ {
				g.want(t, g.told(g.lies(t)[i%7], who[:n], at(0, 4, 9)))
			}
		}
	}
}
