package collect

// P25.1 and P25.2: the errors, which of them comes first, and that nothing stands beside them.

import (
	"math"
	"slices"
	"testing"

	"conclave/api"
	"conclave/sample"
)

// wrongOuts are numbers of outs that may not be asked for, wrongRounds such rounds.
func wrongOuts() []int { return append(sample.NotBelow(mostOuts+1), 128, 256, 4096) }

func wrongRounds() []int { return append(sample.NotBelow(lastRound+1), 65537, 131071, 1<<20) }

// wantErrArg has Well and First refuse what they are asked, whatever comes: nothing, what would be a reply, what is none.
func wantErrArg(t *testing.T, a ask, l ...api.Packet) {
	t.Helper()
	for _, one := range append(l, api.Packet{}) {
		wantWell(t, a, one.From, one.Bytes, api.Reply{}, 2)
	}
	wantFirst(t, a, nil, nil, 2)
	wantFirst(t, a, l, nil, 2)
	wantFirst(t, a, []api.Packet{{}}, nil, 2)
}

// A plan that may not be, with packets that a plan would take which differs from it in little.
func TestNoPlan(t *testing.T) {
	near := []ask{{example, 1, 0}, {sample.Plan(1, 1, 0, 0, 0, 0), 0, 0}, {sample.With(sample.Plan(64, 32, 32, 64, 64, 1024), api.Large, 1), 2, lastRound}}
	for _, p := range sample.NoPlans() {
		for _, a := range near {
			l := []api.Packet{a.sent(t, 0, a.values(1)...), a.sent(t, a.p.N-1, a.values(3)...)}
			wantErrArg(t, ask{p, a.outs, a.round}, l...)
			for _, outs := range []int{0, 1, -1, 65} {
				wantReady(t, p, outs, nil, api.Result{}, false, 2)
				wantReady(t, p, outs, replies(r(0, 1), r(0, 1)), api.Result{}, false, 2)
			}
		}
	}
}

// The numbers next to those that may be, one at a time, with all else right.
func TestNoPlanByHand(t *testing.T) {
	for _, f := range sample.Fields() {
		good := sample.With(sample.Plan(12, 3, 1, 0, 2, 2), f, 2)
		a := ask{good, 1, 5}
		l := []api.Packet{a.sent(t, 0, 1), a.sent(t, 7, 1)}
		all := replies(r(0, 1), r(1, 1))
		for i, wrong := range [][]int{{0, -1, 65}, {0, -1, 64, 65}, {-1, 62, 63}, {-1, 65}, {-1, 65}, {-1, 1025}, {0, -1, 65}} {
			for _, n := range append(wrong, math.MinInt, math.MaxInt) {
				a.p = good
				*sample.PlanNumbers(&a.p)[i] = n
				wantErrArg(t, a, l...)
				wantReady(t, a.p, 1, all, api.Result{}, false, 2)
			}
		}
		for n := range 256 {
			a.p = good
			a.p.Field = api.Field(n)
			if n == int(api.Small) || n == int(api.Large) {
				wantFirstBy(t, a, l)
				wantNotReady(t, a.p, 1, all)
				continue
			}
			wantErrArg(t, a, l...)
			wantReady(t, a.p, 1, all, api.Result{}, false, 2)
		}
	}
}

// A plan that may be, but has too few workers, is no error: whether it is accepted is not asked.
func TestPlansThatAreNotAccepted(t *testing.T) {
	for _, p := range sample.Plans() {
		a := ask{p, 2, 3}
		var l []api.Packet
		var all []api.Reply
		for worker := range p.N {
			l = append(l, a.sent(t, worker, 0, 0))
			all = append(all, r(worker, 0, 0))
		}
		wantFirst(t, a, l, all, 0)
		if needed(p) > p.N {
			wantNotReady(t, p, 2, all)
		} else {
			wantReady(t, p, 2, all, api.Result{Results: slices.Repeat([][]uint64{{0, 0}}, p.K), Polys: make([][]uint64, 2)}, true, 0)
		}
	}
}

func TestOuts(t *testing.T) {
	for _, a := range few() {
		l := []api.Packet{a.sent(t, 0, a.values(1)...)}
		for _, outs := range wrongOuts() {
			wrong := ask{a.p, outs, a.round}
			wantErrArg(t, wrong, l...)
			wantReady(t, a.p, outs, nil, api.Result{}, false, 2)
			wantReady(t, a.p, outs, replies(r(0, a.values(1)...)), api.Result{}, false, 2)
			if outs > 0 && outs < 5000 {
				wantReady(t, a.p, outs, replies(r(0, make([]uint64, outs)...)), api.Result{}, false, 2)
			}
		}
		for _, outs := range []int{0, 1, 2, 63, 64} {
			right := ask{a.p, outs, a.round}
			wantFirst(t, right, []api.Packet{right.sent(t, 0, right.values(2)...)}, replies(r(0, right.values(2)...)), 0)
			wantReadyBy(t, a.p, outs, replies(r(0, right.values(2)...)))
		}
	}
}

func TestRounds(t *testing.T) {
	for _, a := range few() {
		l := []api.Packet{a.sent(t, 0, a.values(1)...)}
		for _, round := range wrongRounds() {
			wantErrArg(t, ask{a.p, a.outs, round}, l...)
			// What a word or less of the round would be.
			low := ask{a.p, a.outs, round & lastRound}
			wantErrArg(t, ask{a.p, a.outs, round}, low.sent(t, 0, a.values(2)...))
		}
		for _, round := range append(sample.Below(lastRound+1), lastRound-1) {
			right := ask{a.p, a.outs, round}
			wantFirst(t, right, []api.Packet{right.sent(t, 0, a.values(2)...)}, replies(r(0, a.values(2)...)), 0)
		}
	}
}

// All that may be wrong at once: ErrArg comes ahead of ErrForm, and nothing stands beside either.
func TestManyFaulty(t *testing.T) {
	a := ask{example, 1, 7}
	it, other := a.reply(t, 2, 15), a.reply(t, 4, 5)
	seen := map[api.Errno]int{}
	for _, p := range []api.Plan{example, sample.Plan(2, 1, 0, 0, 9, 9), sample.With(example, api.Large, 1), sample.With(example, api.NoField, 1), sample.Plan(0, 2, 1, 0, 1, 1), sample.Plan(5, 33, 32, 0, 1, 1), {}} {
		for _, outs := range []int{1, 0, 2, 64, -1, 65, math.MinInt} {
			for _, round := range []int{7, 6, 0, 65535, -1, 65536, math.MaxInt} {
				for _, from := range []int{3, 1, 5, 0, -1, 6, 64, 65, math.MinInt, math.MaxInt} {
					for _, b := range [][]byte{it, other, nil, it[:29], append(slices.Clone(it), 0)} {
						asked := ask{p, outs, round}
						seen[wantWellBy(t, asked, from, b)]++
						wantFirstBy(t, asked, []api.Packet{packet(from, 0, b), packet(3, 0, it), packet(from, 1, other)})
					}
				}
			}
		}
	}
	if seen[0] != 2 || seen[2] < 1000 || seen[8] < 1000 || len(seen) != 3 {
		t.Errorf("the errors were told so often: %v", seen)
	}
}

// What is wrong with some packets is no error of First.
func TestFirstPassesOver(t *testing.T) {
	for i, a := range few() {
		b := a.reply(t, 0, a.values(i)...)
		var l []api.Packet
		for _, none := range append(sample.Garbled(b), make([]byte, api.MaxBytes+100)) {
			l = append(l, packet(1, 0, none))
		}
		wantFirst(t, a, l, nil, 0)
		wantFirst(t, a, append(l, packet(1, 0, b)), replies(r(0, a.values(i)...)), 0)
		for _, from := range sample.NotBelow(a.p.N + 1) {
			l = append(l, packet(from, 0, b), packet(from, from, b))
		}
		wantFirst(t, a, l, nil, 0)
	}
}

// Each error of Recover but ErrShort comes through, in the order in which Recover has them: with too few replies as with enough.
func TestReadyManyFaulty(t *testing.T) {
	seen := map[told]int{}
	for i, g := range games(t) {
		for n := range g.p.N + 1 {
			if g.p.N > 20 && n > 2 && n < needed(g.p)-2 {
				continue
			}
			l := g.some(i, n, 0)
			seen[wantReadyBy(t, g.p, g.outs(), l)]++
			for _, worker := range sample.NoWorkers(g.p) {
				wantReady(t, g.p, g.outs(), append(slices.Clone(l), r(worker, make([]uint64, g.outs())...)), api.Result{}, false, 2)
			}
			wantReady(t, g.p, g.outs(), append(slices.Clone(l), r(0, make([]uint64, g.outs()+1)...)), api.Result{}, false, 2)
			wantReady(t, g.p, -1, l, api.Result{}, false, 2)
			if n == 0 {
				continue
			}
			twice := append(slices.Clone(l), l[n/2])
			wantReady(t, g.p, g.outs(), twice, api.Result{}, false, 6)
			// One that may not be comes first, wherever it stands.
			wantReady(t, g.p, g.outs(), append(twice, r(-1)), api.Result{}, false, 2)
			wantReady(t, g.p, g.outs(), append(replies(r(g.p.N)), twice...), api.Result{}, false, 2)
			if g.outs() > 0 {
				outside := g.some(i, n, 0)
				outside[n-1].Values[g.outs()-1] = sample.Prime(g.p.Field)
				wantReady(t, g.p, g.outs(), outside, api.Result{}, false, 2)
			}
			// That one stands twice comes ahead of too many lies.
			lies := g.some(i, n, n)
			seen[wantReadyBy(t, g.p, g.outs(), lies)]++
			wantReady(t, g.p, g.outs(), append(lies, lies[0]), api.Result{}, false, 6)
		}
	}
	for _, want := range []told{{true, 0}, {false, 0}, {false, 180}} {
		if seen[want] == 0 {
			t.Errorf("%v was never told: %v", want, seen)
		}
	}
}
