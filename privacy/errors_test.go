package privacy

// P15.1 and P15.2: the errors, which of them comes first, and what stands beside them.

import (
	"math"
	"slices"
	"testing"

	"conclave/api"
	"conclave/plan"
	"conclave/sample"
)

// input is all that may be handed in; a call takes what it has a place for.
type input struct {
	p                 api.Plan
	who               []int
	data, pads, other [][]uint64
}

// By the words of the chapter.

func elementsBy(f api.Field, parts ...[][]uint64) bool {
	for _, a := range slices.Concat(slices.Concat(parts...)...) {
		if a >= sample.Prime(f) {
			return false
		}
	}
	return true
}

func workersThere(p api.Plan, who []int) bool {
	return !slices.ContainsFunc(who, func(i int) bool { return i < 0 || i >= p.N })
}

func blocksBy(p api.Plan, blocks [][]uint64, n int) bool {
	return len(blocks) == n && !slices.ContainsFunc(blocks, func(l []uint64) bool { return len(l) != p.Width })
}

func twiceBy(who []int) bool {
	return len(slices.Compact(slices.Sorted(slices.Values(who)))) < len(who)
}

// errorBy is the first of the errors that apply.
func errorBy(arg, shape, twice bool) api.Errno {
	switch {
	case arg:
		return api.ErrArg
	case shape:
		return api.ErrShape
	case twice:
		return api.ErrTwice
	}
	return api.OK
}

// errorsBy are the errors of Twin, Seen and Ways.
func errorsBy(in input) [3]api.Errno {
	p := in.p
	arg := !plan.May(p) || !workersThere(p, in.who)
	shape, twice := len(in.who) > p.T, twiceBy(in.who)
	blocks := !blocksBy(p, in.data, p.K) || !blocksBy(p, in.pads, p.T)
	return [3]api.Errno{
		errorBy(arg || !elementsBy(p.Field, in.data, in.pads, in.other), shape || blocks || !blocksBy(p, in.other, p.K), twice),
		errorBy(arg || !elementsBy(p.Field, in.data, in.pads), shape || blocks, twice),
		errorBy(arg, shape, twice),
	}
}

// wantErrors has all calls answer the errors by the words, and nothing beside one; it tells them.
func wantErrors(t *testing.T, in input) [3]api.Errno {
	t.Helper()
	want := errorsBy(in)
	tell := func(what string, e, got api.Errno, nothing bool) {
		t.Helper()
		if got != e || e != api.OK && !nothing {
			t.Errorf("%s(%v, %v, ..): %d, not %d, or not what stands beside it", what, in.p, in.who, got, e)
		}
	}
	twin, e := Twin(in.p, in.who, in.data, in.pads, in.other)
	tell("Twin", want[0], e, len(twin) == 0)
	seen, e2 := Seen(in.p, in.who, in.data, in.pads)
	tell("Seen", want[1], e2, len(seen) == 0)
	free, e3 := Ways(in.p, in.who)
	tell("Ways", want[2], e3, free == 0)
	if e == api.OK && len(twin) != in.p.T || e2 == api.OK && len(seen) != len(in.who) {
		t.Errorf("%v, %v: a twin of %d pads, %d shares seen", in.p, in.who, len(twin), len(seen))
	}
	return want
}

// want has the calls answer just these errors.
func want(t *testing.T, in input, twin, seen, ways api.Errno) {
	t.Helper()
	if told := wantErrors(t, in); told != [3]api.Errno{twin, seen, ways} {
		t.Errorf("%v, %v: %v, not %d, %d, %d", in.p, in.who, told, twin, seen, ways)
	}
}

func wantAll(t *testing.T, in input, e api.Errno) {
	t.Helper()
	want(t, in, e, e, e)
}

// good is what a plan takes: with it nothing is wrong. As many workers are named as may be.
func good(p api.Plan) input {
	return input{
		p: p, who: sample.Mixed(1, p.N)[:min(p.T, p.N)],
		data: sample.Blocks(p.Field, 1, p.K, p.Width), pads: sample.Blocks(p.Field, 2, p.T, p.Width), other: sample.Blocks(p.Field, 3, p.K, p.Width),
	}
}

// ordinary are plans with and without pads, with more and with fewer workers than these.
func ordinary() []api.Plan {
	var plans []api.Plan
	for _, f := range sample.Fields() {
		for width, p := range []api.Plan{sample.Plan(4, 2, 1, 0, 0, 1), sample.Plan(6, 3, 2, 0, 0, 1), sample.Plan(3, 2, 0, 0, 0, 1), sample.Plan(1, 1, 0, 0, 0, 1), sample.Plan(64, 1, 4, 0, 0, 1), sample.Plan(2, 1, 4, 9, 9, 9), sample.Plan(1, 2, 1, 0, 0, 0)} {
			plans = append(plans, sample.With(p, f, 1+width%3))
		}
	}
	return plans
}

func TestNothingIsWrong(t *testing.T) {
	for _, p := range append(ordinary(), grounds()...) {
		in := good(p)
		if (p.K+p.T)*p.T*p.Width > 3000 {
			in.who = nil
		}
		wantAll(t, in, api.OK)
	}
}

// handed are inputs of all kinds, whatever the plan.
func handed(p api.Plan) []input {
	few := func(n int) int { return max(0, min(n, 64)) }
	fitting := api.Plan{Field: api.Small, N: few(p.N), K: few(p.K), T: few(p.T), Width: few(p.Width)}
	return []input{{}, good(fitting), good(sample.Plan(4, 2, 1, 0, 0, 1)), {who: w(0), data: single(1), other: single(1)}, {who: w(-1, 1, 1), data: single(math.MaxUint64), pads: single(5)}}
}

func TestNoPlan(t *testing.T) {
	for _, p := range sample.NoPlans() {
		for _, in := range handed(p) {
			in.p = p
			wantAll(t, in, api.ErrArg)
		}
	}
}

// The numbers next to those that may be, at each place, in both fields, with blocks that would fit.
func TestNoPlanByHand(t *testing.T) {
	for _, f := range sample.Fields() {
		p := sample.With(sample.Plan(11, 3, 1, 0, 2, 2), f, 2)
		wantAll(t, good(p), api.OK)
		for i, wrong := range [][]int{{0, -1, 65}, {0, -1, 64, 65}, {-1, 62, 63}, {-1, 65}, {-1, 65}, {-1, 1025}, {0, -1, 65}} {
			for _, n := range append(wrong, math.MinInt, math.MaxInt) {
				bad := p
				*sample.PlanNumbers(&bad)[i] = n
				for _, in := range append(handed(bad), good(p)) {
					in.p = bad
					wantAll(t, in, api.ErrArg)
				}
			}
		}
		// Numbers whose sums would wrap to ones that may be.
		for _, bad := range []api.Plan{sample.Plan(4, math.MaxInt, math.MinInt, 0, 0, 1), sample.Plan(4, math.MinInt, math.MinInt, 0, 0, 1), sample.Plan(4, -2, 4, 0, 0, 1), sample.Plan(4, 4, -2, 0, 0, 1)} {
			for _, in := range handed(bad) {
				in.p = sample.With(bad, f, 1)
				wantAll(t, in, api.ErrArg)
			}
		}
	}
}

func TestNoField(t *testing.T) {
	for f := range 256 {
		in := good(sample.Plan(4, 2, 1, 0, 0, 1))
		in.p.Field = api.Field(f)
		if f == 1 || f == 2 {
			wantAll(t, in, api.OK)
			continue
		}
		wantAll(t, in, api.ErrArg)
		wantAll(t, input{p: in.p}, api.ErrArg)
	}
}

// A number that is no element at each place of data, pads and other data.
func TestNoElement(t *testing.T) {
	for _, p := range ordinary() {
		for _, a := range sample.Outside(p.Field) {
			for place := range p.Width {
				for block := range p.K {
					in := good(p)
					in.data = sample.Put(in.data, block, place, a)
					want(t, in, api.ErrArg, api.ErrArg, api.OK)
					in = good(p)
					in.other = sample.Put(in.other, block, place, a)
					want(t, in, api.ErrArg, api.OK, api.OK)
				}
				for block := range p.T {
					in := good(p)
					in.pads = sample.Put(in.pads, block, place, a)
					want(t, in, api.ErrArg, api.ErrArg, api.OK)
					in.who = nil
					want(t, in, api.ErrArg, api.ErrArg, api.OK)
				}
			}
		}
	}
}

// The greatest element is one; what is none of Small may be one of Large.
func TestGreatestElement(t *testing.T) {
	small, large := sample.Plan(3, 1, 1, 0, 0, 1), sample.With(sample.Plan(3, 1, 1, 0, 0, 1), api.Large, 1)
	for _, p := range []api.Plan{small, large} {
		top := single(sample.Prime(p.Field) - 1)
		wantAll(t, input{p, w(2), top, top, top}, api.OK)
	}
	for _, a := range l(2013265921, 1<<32, 1<<63, 18446744069414584320) {
		wantAll(t, input{large, w(2), single(a), single(a), single(a)}, api.OK)
		want(t, input{small, w(2), single(a), single(a), single(a)}, api.ErrArg, api.ErrArg, api.OK)
	}
}

// A number that is no element goes ahead of whatever is wrong with the shape: in a block too many, at the end of one too long, beyond all limits.
func TestNoElementWhereNothingIsAsked(t *testing.T) {
	for _, p := range ordinary() {
		for _, a := range sample.Outside(p.Field) {
			faulty := append(sample.Run(p.Field, 1, p.Width), a)
			for _, block := range lists(l(a), l(1, a), faulty, append(make([]uint64, 4095), a), append(make([]uint64, 4096), a), append(make([]uint64, 5000), a, 1)) {
				in := good(p)
				in.data = append(slices.Clone(in.data), block)
				want(t, in, api.ErrArg, api.ErrArg, api.OK)
				in = good(p)
				in.pads = append(slices.Clone(in.pads), block)
				want(t, in, api.ErrArg, api.ErrArg, api.OK)
				in = good(p)
				in.other = append(slices.Clone(in.other), block)
				want(t, in, api.ErrArg, api.OK, api.OK)
				// Behind far too many, with far too many workers.
				many := append(slices.Repeat(lists(nil, l(1)), 5000), block)
				want(t, input{p: p, who: make([]int, p.T+1), data: many}, api.ErrArg, api.ErrArg, api.ErrShape)
				want(t, input{p: p, who: make([]int, p.T+9), pads: many}, api.ErrArg, api.ErrArg, api.ErrShape)
				want(t, input{p: p, who: make([]int, 5000), other: many}, api.ErrArg, api.ErrShape, api.ErrShape)
			}
		}
	}
}

// A worker that there is not goes ahead of the shape and of a worker that is named twice, wherever it stands.
func TestNoWorker(t *testing.T) {
	for _, p := range ordinary() {
		for _, worker := range sample.NoWorkers(p) {
			for at := range len(good(p).who) {
				in := good(p)
				in.who[at] = worker
				wantAll(t, in, api.ErrArg)
				in.data = in.data[1:]
				wantAll(t, in, api.ErrArg)
			}
			for _, who := range [][]int{w(worker), w(worker, worker), w(0, worker), w(0, 0, worker), append(sample.Inputs(p.N), worker), append(make([]int, 5000), worker)} {
				in := good(p)
				in.who = who
				wantAll(t, in, api.ErrArg)
				wantAll(t, input{p: p, who: who}, api.ErrArg)
			}
		}
		// The first and the last one, and all others.
		for worker := range p.N {
			in := good(p)
			in.who = w(worker)
			wantAll(t, in, errorBy(false, p.T == 0, false))
		}
	}
}

func TestTooFewAndTooMany(t *testing.T) {
	for _, p := range ordinary() {
		numbers := []int{0, 1, p.K - 1, p.K, p.K + 1, 2 * p.K, p.K + p.T, 64, 65, 5000}
		for _, n := range numbers {
			wrong := errorBy(false, n != p.K, false)
			in := good(p)
			in.data = sample.Resized(p, in.data, n)
			want(t, in, wrong, wrong, api.OK)
			in = good(p)
			in.other = sample.Resized(p, in.other, n)
			want(t, in, wrong, api.OK, api.OK)
			// One block more here, and one less there.
			in.data = sample.Resized(p, in.data, max(0, 2*p.K-n))
			want(t, in, wrong, wrong, api.OK)
		}
		for _, n := range append(numbers, p.T, p.T+1, max(p.T-1, 0)) {
			wrong := errorBy(false, n != p.T, false)
			in := good(p)
			in.pads = sample.Resized(p, in.pads, n)
			want(t, in, wrong, wrong, api.OK)
			in.data = sample.Resized(p, in.data, max(0, p.K+p.T-n))
			want(t, in, wrong, wrong, api.OK)
		}
	}
}

// A block or a pad of another length, at each place; also where all together have as many elements as they should.
func TestTooShortAndTooLong(t *testing.T) {
	for _, p := range ordinary() {
		for _, width := range []int{0, p.Width - 1, p.Width + 1, 2 * p.Width, 64, 65, 4096, 4097, 5000} {
			block := sample.Run(p.Field, 9, width)
			for at := range p.K {
				in := good(p)
				in.data[at] = block
				want(t, in, api.ErrShape, api.ErrShape, api.OK)
				in = good(p)
				in.other[at] = block
				want(t, in, api.ErrShape, api.OK, api.OK)
			}
			for at := range p.T {
				in := good(p)
				in.pads[at] = block
				want(t, in, api.ErrShape, api.ErrShape, api.OK)
			}
		}
	}
	in := good(sample.With(sample.Plan(4, 2, 2, 0, 0, 1), api.Large, 2))
	in.data = lists(l(1), l(2, 3, 4))
	want(t, in, api.ErrShape, api.ErrShape, api.OK)
	in.data, in.pads = lists(l(1, 2), l(3, 4)), lists(l(1, 2, 3), l(4))
	want(t, in, api.ErrShape, api.ErrShape, api.OK)
	in.pads, in.other = lists(l(1, 2), l(3, 4)), lists(l(1), l(2, 3, 4))
	want(t, in, api.ErrShape, api.OK, api.OK)
}

// More than T workers, each once or not, from one more on; also where there are not so many.
func TestTooManyWorkers(t *testing.T) {
	for _, p := range ordinary() {
		for _, n := range []int{p.T + 1, p.T + 2, p.K + p.T, p.N, p.N + 1, 64, 65, 5000} {
			if n <= p.T {
				continue
			}
			in := good(p)
			in.who = nil
			for i := range n {
				in.who = append(in.who, i%p.N)
			}
			wantAll(t, in, api.ErrShape)
			in.who = slices.Repeat(w(p.N-1), n)
			wantAll(t, in, api.ErrShape)
		}
		for n := range min(p.T, p.N) + 1 {
			in := good(p)
			in.who = in.who[:n]
			wantAll(t, in, api.OK)
		}
	}
	for _, f := range sample.Fields() {
		in := good(sample.With(sample.Plan(64, 1, 62, 0, 0, 1), f, 1))
		in.who = sample.Inputs(63)
		wantAll(t, in, api.ErrShape)
		in.who = sample.Inputs(62)
		wantAll(t, in, api.OK)
	}
}

// A worker that is named twice, wherever the two stand; the shape goes ahead.
func TestTwice(t *testing.T) {
	for _, p := range ordinary() {
		for n := 2; n <= p.T; n++ {
			for i := range n {
				for j := range n {
					for _, worker := range w(i%p.N, 0, p.N-1) {
						in := good(p)
						in.who = nil
						for at := range n {
							in.who = append(in.who, at%p.N)
						}
						in.who[i], in.who[j] = worker, worker
						wantAll(t, in, errorBy(false, false, twiceBy(in.who)))
						in.pads[0] = append(in.pads[0], 1)
						e := errorBy(false, false, twiceBy(in.who))
						want(t, in, api.ErrShape, api.ErrShape, e)
						in = input{p, in.who, good(p).data, good(p).pads, nil}
						want(t, in, api.ErrShape, e, e)
					}
				}
			}
		}
	}
	// Each pair next to another, of as many as there may be.
	for _, f := range sample.Fields() {
		in := good(sample.With(sample.Plan(64, 1, 63, 0, 0, 1), f, 1))
		for i := range 62 {
			in.who = sample.Inputs(63)
			in.who[i+1] = i
			wantAll(t, in, api.ErrTwice)
		}
		for _, n := range w(2, 62, 63) {
			in.who = slices.Repeat(w(63), n)
			wantAll(t, in, api.ErrTwice)
		}
		// T names, of fewer workers than that.
		in.p.N = 1
		in.who = make([]int, 63)
		wantAll(t, in, api.ErrTwice)
	}
}

// names are lists of workers with all kinds of faults, and with none.
func names(p api.Plan) [][]int {
	fine := good(p).who
	return [][]int{fine, nil, make([]int, p.T), make([]int, p.T+1), slices.Repeat(w(p.N-1), p.T+1), w(p.N), w(-1), w(0, 0, p.N), append(make([]int, p.T), -1), append(slices.Clone(fine), math.MaxInt)}
}

// All faults of one kind with all of the others.
func TestWhichErrorComesFirst(t *testing.T) {
	told := map[api.Errno]int{}
	for _, p := range append(ordinary(), sample.Plan(0, 2, 1, 0, 0, 1), sample.Plan(4, 2, 1, 0, 65, 1), sample.With(sample.Plan(4, 2, 1, 0, 0, 1), api.Large, 65)) {
		for _, who := range names(p) {
			for _, data := range sample.FaultyBlocks(p, p.K) {
				for _, pads := range sample.FaultyBlocks(p, p.T) {
					for _, other := range sample.FaultyBlocks(p, p.K) {
						for _, e := range wantErrors(t, input{p, who, data, pads, other}) {
							told[e]++
						}
					}
				}
			}
		}
	}
	if told[api.ErrArg] < 500 || told[api.ErrShape] < 500 || told[api.ErrTwice] < 20 || told[api.OK] < 20 {
		t.Errorf("the errors were told so often: %v", told)
	}
}
