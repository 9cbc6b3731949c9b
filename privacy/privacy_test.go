package privacy

import (
	"slices"
	"testing"

	"conclave/api"
	"conclave/field"
	"conclave/interp"
	"conclave/plan"
	"conclave/sample"
	"conclave/share"
)

func l(a ...uint64) []uint64 { return a }

func lists(l ...[]uint64) [][]uint64 { return l }

func w(who ...int) []int { return who }

// single are blocks of one element each.
func single(a ...uint64) (blocks [][]uint64) {
	for _, x := range a {
		blocks = append(blocks, l(x))
	}
	return blocks
}

func same(a, b [][]uint64) bool { return slices.EqualFunc(a, b, slices.Equal[[]uint64]) }

// brief tells blocks that may be many.
func brief(blocks [][]uint64) string { return sample.Brief(slices.Concat(blocks...)) }

func wantTwin(t *testing.T, p api.Plan, who []int, data, pads, other, answer [][]uint64, e api.Errno) {
	t.Helper()
	if twin, got := Twin(p, who, data, pads, other); !same(twin, answer) || got != e {
		t.Errorf("Twin(%v, %v, %s, %s, %s) = %s, %d, not %s, %d", p, who, brief(data), brief(pads), brief(other), brief(twin), got, brief(answer), e)
	}
}

func wantSeen(t *testing.T, p api.Plan, who []int, data, pads, answer [][]uint64, e api.Errno) {
	t.Helper()
	if seen, got := Seen(p, who, data, pads); !same(seen, answer) || got != e {
		t.Errorf("Seen(%v, %v, %s, %s) = %s, %d, not %s, %d", p, who, brief(data), brief(pads), brief(seen), got, brief(answer), e)
	}
}

func wantWays(t *testing.T, p api.Plan, who []int, answer int, e api.Errno) {
	t.Helper()
	if free, got := Ways(p, who); free != answer || got != e {
		t.Errorf("Ways(%v, %v) = %d, %d, not %d, %d", p, who, free, got, answer, e)
	}
}

// The reference: by the words of the chapters, without the layers that this one calls.

// run are n points from first on.
func run(first, n int) (xs []uint64) {
	for i := range n {
		xs = append(xs, uint64(first+i))
	}
	return xs
}

// keptBy are the workers whose shares a twin keeps, those of who and the first others; numbers from N on stand for points behind the last worker's.
func keptBy(p api.Plan, who []int) []int {
	kept := slices.Clone(who)
	for i := 0; len(kept) < p.T; i++ {
		if !slices.Contains(who, i) {
			kept = append(kept, i)
		}
	}
	return kept
}

func pointsBy(p api.Plan, who []int) (xs []uint64) {
	for _, i := range who {
		xs = append(xs, uint64(p.K+p.T+i))
	}
	return xs
}

// movedBy are the blocks that belong to zs, where those that are handed in belong to xs.
func movedBy(p api.Plan, blocks [][]uint64, xs, zs []uint64) (moved [][]uint64) {
	rows, _ := interp.Change(p.Field, xs, zs)
	for _, row := range rows {
		sum := make([]uint64, p.Width)
		for place := range sum {
			var ys []uint64
			for _, block := range blocks {
				ys = append(ys, block[place])
			}
			sum[place], _ = field.Dot(p.Field, row, ys)
		}
		moved = append(moved, sum)
	}
	return moved
}

func seenBy(p api.Plan, who []int, data, pads [][]uint64) [][]uint64 {
	return movedBy(p, slices.Concat(data, pads), run(0, p.K+p.T), pointsBy(p, who))
}

// twinBy lays polynomials through the other data and through what is kept, and reads off what they have at the pads' points.
func twinBy(p api.Plan, who []int, data, pads, other [][]uint64) [][]uint64 {
	kept := keptBy(p, who)
	xs := append(run(0, p.K), pointsBy(p, kept)...)
	return movedBy(p, slices.Concat(other, seenBy(p, kept, data, pads)), xs, run(p.K, p.T))
}

// grounds are plans: all small ones, some of all sizes, and the sample's, of which many have fewer workers than pads, and many are not accepted.
func grounds() []api.Plan {
	plans := sample.Plans()
	for _, f := range sample.Fields() {
		for n := 1; n <= 5; n++ {
			for k := 1; k <= 3; k++ {
				for pads := range 5 {
					plans = append(plans, sample.With(sample.Plan(n, k, pads, 0, 0, 1), f, 1+(n+k+pads)%3))
				}
			}
		}
		for _, n := range []int{1, 7, 30, 64} {
			for _, k := range []int{1, 9, 31} {
				for _, pads := range []int{0, 1, 2, 8, 33} {
					plans = append(plans, sample.With(sample.Plan(n, k, pads, 2, 3, 5), f, 1+(n+pads)%7))
				}
			}
		}
	}
	return plans
}

// numbersOf are how many workers are named: none, one, one less than there may be, as many; of few each number.
func numbersOf(p api.Plan) []int {
	most := min(p.T, p.N)
	if most <= 4 {
		return sample.Inputs(most + 1)
	}
	return []int{0, 1, most / 2, most - 1, most}
}

// choices are lists of unlike workers of a plan, at most T, in all kinds of orders: each choice, where these are few.
func choices(p api.Plan) (whos [][]int) {
	for _, many := range numbersOf(p) {
		if p.N > 5 {
			whos = append(whos, sample.SomeChoices(p.N, many)[:min(5, 1+4*many)]...)
			continue
		}
		for _, rising := range sample.EveryChoice(p.N, many) {
			whos = append(whos, rising)
			if many > 1 {
				falling := slices.Clone(rising)
				slices.Reverse(falling)
				whos = append(whos, falling)
			}
		}
	}
	return whos
}

// round is data blocks with pads, and other data.
type round struct{ data, pads, other [][]uint64 }

// rounds are of elements without any order, of 0 and one less than the prime alone, of edges; with other data that are the data, that differ in one element, that are noughts, that are quite other ones.
func rounds(p api.Plan) []round {
	f, k, pads, width := p.Field, p.K, p.T, p.Width
	top := sample.Prime(f) - 1
	data := sample.Blocks(f, p.N, k, width)
	one, _ := field.Add(f, data[k/2][width-1], 1)
	return []round{
		{data, sample.Blocks(f, k*width+p.N, pads, width), sample.Blocks(f, 7, k, width)},
		{data, sample.EqualBlocks(0, pads, width), data},
		{data, sample.EqualBlocks(top, pads, width), sample.Put(data, k/2, width-1, one)},
		{data, sample.EdgeBlocks(f, 1, pads, width), sample.EqualBlocks(0, k, width)},
		{sample.EqualBlocks(0, k, width), sample.EqualBlocks(0, pads, width), sample.EqualBlocks(top, k, width)},
		{sample.EqualBlocks(top, k, width), sample.EqualBlocks(top, pads, width), sample.EqualBlocks(0, k, width)},
		{sample.EdgeBlocks(f, 3, k, width), sample.Blocks(f, 2, pads, width), sample.EdgeBlocks(f, 11, k, width)},
	}
}

// everywhere does it with all plans, with all workers that may be named and with all rounds; with the larger plans both take turns.
func everywhere(do func(p api.Plan, who []int, r round)) {
	for at, p := range grounds() {
		all, whos := rounds(p), choices(p)
		size, turns := (p.K+p.T)*p.T*p.Width, 1
		switch {
		case size > 3000:
			turns = 1 + len(whos)/2
		case size > 200:
			turns = 1 + len(whos)/5
		}
		for i, who := range whos {
			if i%turns != at%turns {
				continue
			}
			if turn := (at + i) % len(all); size > 200 {
				do(p, who, all[turn])
				continue
			}
			for _, r := range all {
				do(p, who, r)
			}
		}
	}
}

// P15.1

func TestTwin(t *testing.T) {
	asked := 0
	everywhere(func(p api.Plan, who []int, r round) {
		asked++
		wantTwin(t, p, who, r.data, r.pads, r.other, twinBy(p, who, r.data, r.pads, r.other), api.OK)
	})
	if asked < 5000 {
		t.Errorf("only %d were asked", asked)
	}
}

// By its word: the workers of who, and the first others until they are T, have the same shares. Those that lack are workers of a plan that has them.
func TestTwinKeepsTheShares(t *testing.T) {
	everywhere(func(p api.Plan, who []int, r round) {
		twin, e := Twin(p, who, r.data, r.pads, r.other)
		if e != api.OK || len(twin) != p.T {
			t.Fatalf("Twin(%v, %v) has %d pads, %d", p, who, len(twin), e)
		}
		full := p
		full.N = max(p.N, p.T)
		for _, worker := range keptBy(p, who) {
			was, e := share.Share(full, r.data, r.pads, worker)
			is, e2 := share.Share(full, r.other, twin, worker)
			if e != api.OK || e2 != api.OK || !slices.Equal(was, is) {
				t.Errorf("Twin(%v, %v): the worker %d has %s, not %s", p, who, worker, sample.Brief(is), sample.Brief(was))
			}
		}
	})
}

// There is just one: with any other element in it one of the T workers has another share.
func TestTwinIsTheOnlyOne(t *testing.T) {
	for _, f := range sample.Fields() {
		for _, p := range []api.Plan{sample.Plan(4, 2, 1, 0, 0, 1), sample.Plan(6, 2, 3, 0, 0, 1), sample.Plan(1, 1, 4, 0, 0, 1), sample.Plan(64, 60, 4, 0, 0, 1)} {
			p = sample.With(p, f, 2)
			full := p
			full.N = max(p.N, p.T)
			r := rounds(p)[0]
			for _, who := range choices(p) {
				kept := keptBy(p, who)
				twin, _ := Twin(p, who, r.data, r.pads, r.other)
				want, e := Seen(full, kept, r.other, twin)
				if e != api.OK || len(twin) != p.T {
					t.Fatalf("Twin(%v, %v) has %d pads, %d", p, who, len(twin), e)
				}
				for pad := range p.T {
					for place := range p.Width {
						a, _ := field.Add(f, twin[pad][place], 1)
						if seen, _ := Seen(full, kept, r.other, sample.Put(twin, pad, place, a)); same(seen, want) {
							t.Errorf("Twin(%v, %v) has another one", p, who)
						}
					}
				}
			}
		}
	}
}

func TestTwinForTheDataThemselves(t *testing.T) {
	everywhere(func(p api.Plan, who []int, r round) {
		wantTwin(t, p, who, r.data, r.pads, r.data, r.pads, api.OK)
	})
}

// In whatever order workers are named, and whether the first others are named or not, the twin is the same.
func TestTwinHangsOnWhoAlone(t *testing.T) {
	for _, f := range sample.Fields() {
		for _, c := range []struct {
			n, k, t int
			whos    [][]int
		}{
			{6, 2, 3, [][]int{w(), w(0), w(1), w(2), w(2, 0), w(0, 2), w(0, 1, 2), w(2, 1, 0), w(1, 0)}},
			{6, 2, 3, [][]int{w(5, 3), w(3, 5), w(0, 3, 5), w(5, 0, 3), w(3, 5, 0), w(5, 3, 0)}},
			{6, 2, 3, [][]int{w(5), w(5, 0), w(1, 5), w(0, 5, 1), w(5, 1, 0)}},
			{6, 2, 3, [][]int{w(1, 2, 3), w(3, 2, 1), w(2, 3, 1)}},
			{2, 1, 4, [][]int{w(), w(0), w(1), w(0, 1), w(1, 0)}},
			{64, 60, 4, [][]int{w(63), w(63, 0), w(2, 63, 1), w(0, 63, 2, 1)}},
			{64, 60, 4, [][]int{w(63, 62), w(62, 63), w(1, 62, 0, 63)}},
			{4, 2, 0, [][]int{w()}},
		} {
			p := sample.With(sample.Plan(c.n, c.k, c.t, 0, 0, 1), f, 3)
			for _, r := range rounds(p) {
				want := twinBy(p, c.whos[0], r.data, r.pads, r.other)
				for _, who := range c.whos {
					wantTwin(t, p, who, r.data, r.pads, r.other, want, api.OK)
				}
			}
		}
		// And with another worker it is another one.
		p := sample.With(sample.Plan(6, 2, 3, 0, 0, 1), f, 3)
		r := rounds(p)[0]
		var twins [][][]uint64
		for _, who := range sample.EveryChoice(6, 3) {
			twin, _ := Twin(p, who, r.data, r.pads, r.other)
			if slices.ContainsFunc(twins, func(other [][]uint64) bool { return same(twin, other) }) {
				t.Errorf("Twin(%v, %v) = %v, as for others", p, who, twin)
			}
			twins = append(twins, twin)
		}
	}
}

// zeros are the values at the points from first on, n of them, of a plus the product of all differences to xs, which is below both primes.
func zeros(f api.Field, a int64, xs []int64, first, n int) (values []uint64) {
	for x := int64(first); x < int64(first+n); x++ {
		product := int64(1)
		for _, zero := range xs {
			product *= x - zero
		}
		value := uint64(a + product)
		if a+product < 0 {
			value = sample.Prime(f) - uint64(-a-product)
		}
		values = append(values, value)
	}
	return values
}

// Data and pads that are all a; and other data by whole numbers, as a polynomial has them that is a at the points of those who are kept.
func TestTwinByHand(t *testing.T) {
	for _, f := range sample.Fields() {
		for _, c := range []struct {
			n, k, t int
			who     []int
			xs      []int64
		}{
			// One pad: the polynomial is x less the worker's point, with more factors where there are more data blocks.
			{4, 1, 1, w(0), []int64{2}},
			{4, 1, 1, w(3), []int64{5}},
			{4, 2, 1, w(), []int64{3}},
			{4, 2, 1, w(0), []int64{3}},
			{4, 2, 1, w(2), []int64{5}},
			{4, 2, 1, w(2), []int64{5, 0}},
			{4, 2, 1, w(1), []int64{4, 100}},
			// Two: the first other one is kept, too.
			{4, 1, 2, w(), []int64{3, 4}},
			{4, 1, 2, w(0), []int64{3, 4}},
			{4, 1, 2, w(3), []int64{6, 3}},
			{4, 1, 2, w(3, 1), []int64{6, 4}},
			{4, 3, 2, w(1, 3), []int64{6, 8, 1, 9}},
			// Fewer workers than pads: points behind the last worker's.
			{1, 1, 2, w(), []int64{3, 4}},
			{1, 1, 2, w(0), []int64{3, 4}},
			{2, 1, 3, w(1), []int64{4, 5, 6}},
			{2, 2, 4, w(1, 0), []int64{6, 7, 8, 9, 50}},
			// As many of all as there may be.
			{64, 63, 1, w(63), []int64{127}},
			{64, 63, 1, w(63), []int64{127, 0, 62, 5}},
			{64, 62, 2, w(63), []int64{127, 64}},
			{64, 61, 3, w(62, 63), []int64{126, 127, 64}},
			{1, 62, 2, w(), []int64{64, 65}},
			{64, 1, 5, w(63, 0, 31), []int64{69, 6, 37, 7, 8}},
		} {
			for _, a := range []int64{0, 1, 1000} {
				for _, width := range []int{1, 2, 64} {
					p := sample.With(sample.Plan(c.n, c.k, c.t, 0, 0, 1), f, width)
					all := sample.EqualBlocks(uint64(a), c.k+c.t, width)
					var other [][]uint64
					for _, x := range zeros(f, a, c.xs, 0, c.k+c.t) {
						// One place has it, and all others have no change.
						other = append(other, append(l(x), slices.Repeat(l(uint64(a)), width-1)...))
					}
					wantTwin(t, p, c.who, all[:c.k], all[c.k:], other[:c.k], other[c.k:], api.OK)
				}
			}
		}
	}
}

// Without a pad there is nothing to be chosen, and nobody may be named.
func TestTwinWithoutPads(t *testing.T) {
	for _, f := range sample.Fields() {
		for _, n := range []int{1, 2, 64} {
			for _, k := range []int{1, 2, 64} {
				for _, width := range []int{1, 64} {
					p := sample.With(sample.Plan(n, k, 0, 0, 0, 1), f, width)
					data, other := sample.Blocks(f, 1, k, width), sample.Blocks(f, 2, k, width)
					wantTwin(t, p, nil, data, nil, other, nil, api.OK)
					wantSeen(t, p, nil, data, nil, nil, api.OK)
					wantWays(t, p, nil, 0, api.OK)
					wantTwin(t, p, w(0), data, nil, other, nil, api.ErrShape)
					wantSeen(t, p, w(n-1), data, nil, nil, api.ErrShape)
					wantWays(t, p, w(0), 0, api.ErrShape)
				}
			}
		}
	}
}

// As many pads as there may be, with as many workers as there may be, and with one.
func TestTwinAtTheLimits(t *testing.T) {
	for _, f := range sample.Fields() {
		for _, c := range []struct{ n, k, t int }{{64, 1, 63}, {1, 1, 63}, {62, 1, 63}, {63, 1, 63}, {64, 32, 32}, {31, 32, 32}, {64, 63, 1}} {
			for _, width := range []int{1, 64} {
				p := sample.With(sample.Plan(c.n, c.k, c.t, 0, 0, 1), f, width)
				r := rounds(p)[6]
				all := sample.Mixed(2, c.n)[:min(c.n, c.t)]
				for _, who := range [][]int{nil, w(c.n - 1), all} {
					wantTwin(t, p, who, r.data, r.pads, r.other, twinBy(p, who, r.data, r.pads, r.other), api.OK)
				}
				wantSeen(t, p, all, r.data, r.pads, seenBy(p, all, r.data, r.pads), api.OK)
				wantWays(t, p, all, width*(c.t-len(all)), api.OK)
			}
		}
	}
}

// Whether a plan is accepted is not asked, nor whatever else it says beside its field, N, K, T and Width.
func TestNothingElseCounts(t *testing.T) {
	accepted := map[bool]int{}
	for _, silent := range []int{0, 1, 64} {
		for _, faulty := range []int{0, 2, 64} {
			for _, degree := range []int{0, 1, 3, 1024} {
				p := sample.Plan(4, 2, 1, silent, faulty, degree)
				accepted[plan.Accept(p) == api.OK]++
				wantTwin(t, p, w(0), single(5, 7), single(9), single(0, 0), single(671088644), api.OK)
				wantSeen(t, p, w(3), single(5, 7), single(9), single(17), api.OK)
				wantWays(t, p, w(), 1, api.OK)
				wantWays(t, p, w(2), 0, api.OK)
			}
		}
	}
	if accepted[true] == 0 || accepted[false] == 0 {
		t.Errorf("so many are accepted, or not: %v", accepted)
	}
}

// P15.2

func TestSeen(t *testing.T) {
	everywhere(func(p api.Plan, who []int, r round) {
		wantSeen(t, p, who, r.data, r.pads, seenBy(p, who, r.data, r.pads), api.OK)
	})
}

func TestSeenIsTheShares(t *testing.T) {
	everywhere(func(p api.Plan, who []int, r round) {
		var want [][]uint64
		for _, worker := range who {
			mine, e := share.Share(p, r.data, r.pads, worker)
			if e != api.OK {
				t.Fatalf("Share(%v, %d): %d", p, worker, e)
			}
			want = append(want, mine)
		}
		wantSeen(t, p, who, r.data, r.pads, want, api.OK)
	})
}

func TestSeenByHand(t *testing.T) {
	for _, f := range sample.Fields() {
		prime := sample.Prime(f)
		for _, c := range []struct {
			n, k, t, width     int
			who                []int
			data, pads, answer [][]uint64
		}{
			{4, 2, 1, 1, w(), single(5, 7), single(9), nil},
			{4, 2, 1, 1, w(0), single(5, 7), single(9), single(11)},
			{4, 2, 1, 1, w(3), single(5, 7), single(9), single(17)},
			{4, 1, 2, 1, w(0, 3), single(5), single(7, 9), single(11, 17)},
			{4, 1, 2, 1, w(3, 0), single(5), single(7, 9), single(17, 11)},
			{4, 1, 2, 1, w(2), single(0), single(1, 4), single(25)},
			{4, 1, 2, 2, w(3, 1), lists(l(5, 0)), lists(l(7, 1), l(9, 4)), lists(l(17, 36), l(13, 16))},
			{1, 1, 3, 1, w(0), single(0), single(1, 8, 27), single(64)},
			{3, 1, 1, 1, w(2), single(prime - 1), single(0), single(3)},
			{64, 63, 1, 1, w(63), single(run(0, 63)...), single(63), single(127)},
			{64, 1, 63, 1, append(w(63), sample.Inputs(62)...), single(0), single(run(1, 63)...), append(single(127), single(run(64, 62)...)...)},
		} {
			p := sample.With(sample.Plan(c.n, c.k, c.t, 0, 0, 1), f, c.width)
			wantSeen(t, p, c.who, c.data, c.pads, c.answer, api.OK)
		}
	}
}

func TestWays(t *testing.T) {
	for _, p := range grounds() {
		for _, who := range choices(p) {
			wantWays(t, p, who, p.Width*(p.T-len(who)), api.OK)
		}
	}
}

func TestWaysByHand(t *testing.T) {
	for _, f := range sample.Fields() {
		for _, c := range []struct {
			n, t, width int
			who         []int
			free        int
		}{
			{4, 0, 1, w(), 0}, {4, 0, 64, w(), 0}, {4, 1, 1, w(), 1}, {4, 1, 1, w(3), 0}, {4, 1, 64, w(), 64}, {4, 1, 64, w(0), 0},
			{5, 3, 4, w(), 12}, {5, 3, 4, w(3), 8}, {5, 3, 4, w(4, 0), 4}, {5, 3, 4, w(4, 0, 2), 0},
			{1, 3, 5, w(), 15}, {1, 3, 5, w(0), 10}, {2, 3, 5, w(1, 0), 5},
			{64, 63, 64, w(), 4032}, {64, 63, 64, w(63), 3968}, {64, 63, 64, sample.Inputs(63), 0}, {1, 63, 1, w(0), 62},
		} {
			wantWays(t, sample.With(sample.Plan(c.n, 1, c.t, 0, 0, 1), f, c.width), c.who, c.free, api.OK)
		}
	}
}

// What may be chosen freely: to whatever the other workers, until they are T, are to have there are pads, by which those who are named see the same.
func TestWaysMayBeChosen(t *testing.T) {
	for _, f := range sample.Fields() {
		p := sample.With(sample.Plan(6, 2, 3, 0, 0, 1), f, 2)
		r := rounds(p)[0]
		for _, who := range choices(p) {
			free, _ := Ways(p, who)
			seen, _ := Seen(p, who, r.data, r.pads)
			kept := keptBy(p, who)
			for at := range free {
				// Shares of which just this element is another one, and the pads that make them.
				shares := seenBy(p, kept, r.data, r.pads)
				block, place := len(who)+at/p.Width, at%p.Width
				shares[block][place], _ = field.Add(f, shares[block][place], 1)
				pads := movedBy(p, slices.Concat(r.data, shares), append(run(0, p.K), pointsBy(p, kept)...), run(p.K, p.T))
				if same(pads, r.pads) {
					t.Errorf("%v: the pads are the same", p)
				}
				wantSeen(t, p, who, r.data, pads, seen, api.OK)
			}
		}
	}
}

// The examples of the chapter.

func TestExamples(t *testing.T) {
	p := sample.Plan(4, 2, 1, 0, 0, 1)
	wantSeen(t, p, w(0), single(5, 7), single(9), single(11), api.OK)
	wantSeen(t, p, w(0, 1), single(5, 7), single(9), nil, api.ErrShape)
	wantWays(t, p, nil, 1, api.OK)
	wantWays(t, p, w(3), 0, api.OK)
	wantTwin(t, p, w(0), single(5, 7), single(9), single(5, 7), single(9), api.OK)
	wantTwin(t, p, w(0), single(5, 7), single(9), single(0, 0), single(671088644), api.OK)
	wantTwin(t, p, w(4), single(5, 7), single(9), single(0, 0), nil, api.ErrArg)
	wantTwin(t, p, w(0), single(5, 7), single(9), single(0), nil, api.ErrShape)
}
