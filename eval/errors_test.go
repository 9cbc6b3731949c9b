package eval

// P11.1 to P11.3: the errors, which of them comes first, and what stands beside them.

import (
	"slices"
	"testing"

	"conclave/api"
	"conclave/degree"
	"conclave/sample"
	"conclave/slp"
)

// By the words of the chapter.

func elementsBy(f api.Field, lists ...[]uint64) bool {
	for _, l := range lists {
		for _, a := range l {
			if a >= sample.Prime(f) {
				return false
			}
		}
	}
	return sample.Prime(f) > 0
}

// errorBy is the first of the errors that apply.
func errorBy(arg, shape, limit bool) api.Errno {
	switch {
	case arg:
		return api.ErrArg
	case shape:
		return api.ErrShape
	case limit:
		return api.ErrLimit
	}
	return api.OK
}

func runErrorBy(f api.Field, p api.Prog, in []uint64) api.Errno {
	return errorBy(!slp.May(p) || !elementsBy(f, in), len(in) != p.Inputs, false)
}

func manyErrorBy(f api.Field, p api.Prog, rows [][]uint64) api.Errno {
	unlike := slices.ContainsFunc(rows, func(row []uint64) bool { return len(row) != p.Inputs })
	return errorBy(!slp.May(p) || !elementsBy(f, rows...), unlike, len(rows) > 4096)
}

func composeErrorBy(f api.Field, p api.Prog, in [][]uint64) api.Errno {
	long := slices.ContainsFunc(in, func(l []uint64) bool { return len(l) > 4096 })
	return errorBy(!slp.May(p) || !elementsBy(f, in...), len(in) != p.Inputs, long || tooHighBy(p, in))
}

// wantErrors holds all calls against the words, with the first one of in as what Run and Steps are handed, and tells which errors there were.
func wantErrors(t *testing.T, f api.Field, p api.Prog, in [][]uint64) (told []api.Errno) {
	t.Helper()
	var one []uint64
	if len(in) > 0 {
		one = in[0]
	}
	run, many, compose := runErrorBy(f, p, one), manyErrorBy(f, p, in), composeErrorBy(f, p, in)
	if run != api.OK {
		wantRun(t, f, p, one, nil, run)
		wantSteps(t, f, p, one, nil, run)
	} else {
		wantValues(t, f, p, one)
	}
	if many != api.OK {
		wantMany(t, f, p, in, nil, many)
	}
	if compose != api.OK {
		wantCompose(t, f, p, in, nil, compose)
	}
	return []api.Errno{run, many, compose}
}

// wantNone has all calls answer ErrArg, and nothing beside it.
func wantNone(t *testing.T, f api.Field, p api.Prog, in [][]uint64) {
	t.Helper()
	if told := wantErrors(t, f, p, in); !slices.Equal(told, []api.Errno{api.ErrArg, api.ErrArg, api.ErrArg}) {
		t.Errorf("field %d, %s, %s: %v", f, brief(p), briefs(in), told)
	}
}

// handed are lists of lists with all kinds of faults, and with none.
func handed(f api.Field) [][][]uint64 {
	prime := sample.Prime(f)
	return [][][]uint64{
		nil, lists(nil), lists(nil, nil), lists(l(1)), lists(l(1), l(2)), lists(l(1, 2)), lists(l(1, 2), l(3, 4)), lists(l(1, 2, 3)),
		lists(l(prime)), lists(l(1), l(prime)), lists(nil, l(prime)), lists(l(prime), nil), lists(l(1, 2), l(3, prime)), lists(l(1, 2), l(3), l(4, 5)),
		lists(l(1), l(2), l(3, prime)), lists(sample.Power(2048)), lists(sample.Power(4096)), lists(sample.Power(4096), l(prime)), lists(append(sample.Power(4096), prime)),
		lists(l(1), sample.Power(2048)), lists(sample.Power(2048), make([]uint64, 4097)), lists(sample.Power(100), sample.Power(4096)),
		slices.Repeat(lists(l(1)), 4096), slices.Repeat(lists(l(1)), 4097), slices.Repeat(lists(nil), 4097), slices.Repeat(lists(l(1, 2)), 4097),
		append(slices.Repeat(lists(l(1)), 4097), l(prime)), append(slices.Repeat(lists(l(1)), 4097), nil), append(lists(nil), slices.Repeat(lists(l(1)), 4097)...),
	}
}

// All faults of one kind with all of the others.
func TestWhichErrorComesFirst(t *testing.T) {
	faulty := sample.NoProgs()
	some := []api.Prog{{}, {Inputs: 1}, {Inputs: 2}, {Inputs: 64}, square(), squareAndFive(), sample.Squares(11), sample.Squares(256), {Inputs: 2, Ops: ops(step(api.OMul, 0, 1)), Outs: outs(2)}, sample.Steep(3, 2, 100, 5), faulty[0], faulty[3], faulty[9], faulty[len(faulty)-1]}
	told := map[api.Errno]int{}
	for _, f := range sample.Fields() {
		for _, p := range some {
			for _, in := range handed(f) {
				for _, e := range wantErrors(t, f, p, in) {
					told[e]++
				}
				for _, none := range sample.NoFields() {
					wantNone(t, none, p, in)
				}
			}
		}
	}
	if told[api.ErrArg] < 500 || told[api.ErrShape] < 500 || told[api.ErrLimit] < 50 || told[api.OK] < 50 {
		t.Errorf("the errors were told so often: %v", told)
	}
}

func TestNoProgram(t *testing.T) {
	for _, f := range sample.Fields() {
		for _, p := range sample.NoProgs() {
			// As many inputs as it has, too few and too many, and none.
			n := max(0, min(p.Inputs, 200))
			for _, in := range [][][]uint64{nil, lists(make([]uint64, n)), slices.Repeat(lists(make([]uint64, n)), n), slices.Repeat(lists(make([]uint64, n)), 4097), lists(l(1)), lists(l(sample.Prime(f)))} {
				wantNone(t, f, p, in)
			}
		}
	}
}

// A fault in a step on which nothing hangs is one all the same, also where a degree is past all limits.
func TestFaultsThatNothingHangsOn(t *testing.T) {
	for _, f := range sample.Fields() {
		for _, op := range ops(api.Op{}, api.Op{Kind: 5}, step(api.OAdd, 0, 12), step(api.OSub, 13, 0), step(api.OMul, -1, 0), api.Op{Kind: api.OMul, C: 1}, api.Op{Kind: api.OConst, A: 1}) {
			p := api.Prog{Inputs: 1, Ops: append(sample.Squares(11).Ops, op)}
			for _, to := range [][]int{nil, outs(0), outs(11), outs(12)} {
				wantNone(t, f, withOuts(p, to...), lists(l(1)))
				wantNone(t, f, withOuts(p, to...), lists(sample.Power(4096)))
			}
		}
	}
}

func TestNoField(t *testing.T) {
	for _, f := range sample.NoFields() {
		for _, p := range progs() {
			wantNone(t, f, p, lists(make([]uint64, p.Inputs)))
			wantNone(t, f, p, slices.Repeat(lists(make([]uint64, p.Inputs)), p.Inputs))
			wantNone(t, f, p, nil)
		}
	}
}

// A number that is no element, at each place of each row.
func TestNoElement(t *testing.T) {
	p := api.Prog{Inputs: 4, Outs: outs(0)}
	for _, f := range sample.Fields() {
		for _, a := range sample.Outside(f) {
			for at := range 4 {
				for row := range 4 {
					rows := lists(l(1, 2, 3, 4), l(5, 6, 7, 8), l(1, 1, 1, 1), l(0, 0, 0, 0))
					rows[row][at] = a
					wantRun(t, f, p, rows[row], nil, api.ErrArg)
					wantSteps(t, f, p, rows[row], nil, api.ErrArg)
					wantMany(t, f, p, rows, nil, api.ErrArg)
					wantCompose(t, f, p, rows, nil, api.ErrArg)
					// Also where nothing uses it, nothing comes out, or the shape is another one.
					for _, q := range []api.Prog{{Inputs: 4}, {Inputs: 4, Ops: ops(constant(3)), Outs: outs(4)}, {Inputs: 3}, {Inputs: 5, Outs: outs(4)}, {}} {
						wantRun(t, f, q, rows[row], nil, api.ErrArg)
						wantSteps(t, f, q, rows[row], nil, api.ErrArg)
						wantMany(t, f, q, rows, nil, api.ErrArg)
						wantCompose(t, f, q, rows, nil, api.ErrArg)
					}
				}
			}
		}
	}
	// An element of Large is none of Small.
	wantRun(t, api.Large, square(), l(2013265921), l(2013265921*2013265921), api.OK)
	wantRun(t, api.Small, square(), l(2013265921), nil, api.ErrArg)
}

// A number that is no element, in the last of many rows, at the end of a list past the limit, behind rows of another shape.
func TestNoElementFarBehind(t *testing.T) {
	for _, f := range sample.Fields() {
		for _, a := range sample.Outside(f) {
			for _, n := range []int{1, 100, 4095, 4096, 5000} {
				wantMany(t, f, square(), append(slices.Repeat(lists(l(1)), n), l(a)), nil, api.ErrArg)
				wantMany(t, f, square(), append(slices.Repeat(lists(l(1, 1)), n), l(a)), nil, api.ErrArg)
				wantMany(t, f, square(), append(lists(nil), append(slices.Repeat(lists(l(1)), n), l(1, 2, a))...), nil, api.ErrArg)
				wantCompose(t, f, square(), append(slices.Repeat(lists(l(1)), n), l(a)), nil, api.ErrArg)
			}
		}
		for _, faulty := range sample.Faulty(f) {
			wantNone(t, f, square(), lists(faulty))
			wantCompose(t, f, api.Prog{Inputs: 2, Outs: outs(0)}, lists(l(1), faulty), nil, api.ErrArg)
			wantCompose(t, f, api.Prog{Inputs: 2, Outs: outs(0)}, lists(sample.Power(5000), faulty), nil, api.ErrArg)
			wantCompose(t, f, sample.Squares(20), lists(faulty), nil, api.ErrArg)
		}
	}
}

func TestTooFewAndTooMany(t *testing.T) {
	for _, f := range sample.Fields() {
		for n := range 65 {
			p := api.Prog{Inputs: n, Outs: sample.Inputs(n)}
			for m := range 67 {
				in := sample.Run(f, 3, m)
				cut := slices.Repeat(lists(l(4)), m)
				if m == n {
					wantRun(t, f, p, in, in, api.OK)
					wantSteps(t, f, p, in, in, api.OK)
					wantCompose(t, f, p, cut, cut, api.OK)
					continue
				}
				wantRun(t, f, p, in, nil, api.ErrShape)
				wantSteps(t, f, p, in, nil, api.ErrShape)
				wantCompose(t, f, p, cut, nil, api.ErrShape)
				wantCompose(t, f, withOuts(p), cut, nil, api.ErrShape)
			}
		}
		wantRun(t, f, square(), sample.Run(f, 1, 9000), nil, api.ErrShape)
		wantRun(t, f, api.Prog{}, l(0), nil, api.ErrShape)
		wantCompose(t, f, api.Prog{}, lists(nil), nil, api.ErrShape)
		// Ahead of all that is past a limit.
		wantCompose(t, f, square(), lists(sample.Power(4096), l(1)), nil, api.ErrShape)
		wantCompose(t, f, square(), lists(sample.Power(2048), l(1)), nil, api.ErrShape)
		wantCompose(t, f, sample.Squares(11), nil, nil, api.ErrShape)
		wantCompose(t, f, sample.Squares(256), lists(l(1), l(1)), nil, api.ErrShape)
		wantCompose(t, f, square(), slices.Repeat(lists(l(1)), 5000), nil, api.ErrShape)
	}
}

// One row of another length, at each place.
func TestManyWithAnotherRow(t *testing.T) {
	p := api.Prog{Inputs: 2, Ops: ops(step(api.OMul, 0, 1)), Outs: outs(2)}
	for _, f := range sample.Fields() {
		for _, n := range []int{1, 2, 3, 10, 4096, 4097, 5000} {
			for _, at := range []int{0, 1, n / 2, n - 2, n - 1} {
				for _, row := range lists(nil, l(1), l(1, 2, 3), sample.Run(f, 1, 5000)) {
					rows := slices.Repeat(lists(l(3, 4)), n)
					rows[max(0, min(at, n-1))] = row
					wantMany(t, f, p, rows, nil, api.ErrShape)
				}
			}
		}
		// Rows that are as long as each other, but not as the program asks.
		wantMany(t, f, p, lists(l(1), l(2)), nil, api.ErrShape)
		wantMany(t, f, api.Prog{}, lists(nil, l(1)), nil, api.ErrShape)
		// The sum of all is no matter.
		wantMany(t, f, p, lists(l(1), l(2, 3, 4)), nil, api.ErrShape)
	}
}

func TestComposeOfTooLongLists(t *testing.T) {
	two := api.Prog{Inputs: 2, Outs: outs(0)}
	for _, f := range sample.Fields() {
		for _, long := range sample.TooLong(f, 4096) {
			wantCompose(t, f, two, lists(long, l(1)), nil, api.ErrLimit)
			wantCompose(t, f, two, lists(l(1), long), nil, api.ErrLimit)
			wantCompose(t, f, two, lists(long, long), nil, api.ErrLimit)
			// Though nothing uses it, and nothing comes out.
			wantCompose(t, f, withOuts(two), lists(l(1), long), nil, api.ErrLimit)
			wantCompose(t, f, api.Prog{Inputs: 1, Ops: ops(constant(4)), Outs: outs(1)}, lists(long), nil, api.ErrLimit)
			wantCompose(t, f, two, lists(long), nil, api.ErrShape)
		}
	}
}

// The greatest degree of in, wherever it stands.
func TestComposeOfOneHighPolynomial(t *testing.T) {
	for _, f := range sample.Fields() {
		for n, of := range map[int]int{2: 2047, 3: 1365, 5: 819, 64: 63, 1024: 3} {
			p := sample.Raise(n)
			for at := range 5 {
				// Raise has one input; the others stand behind it, unused.
				q := api.Prog{Inputs: 5, Outs: outs(p.Outs[0] + 4)}
				for _, op := range p.Ops {
					q.Ops = append(q.Ops, step(op.Kind, behind(op.A), behind(op.B)))
				}
				if m, e := degree.Of(q); m != n || e != api.OK {
					t.Fatalf("the degree %d, %d, not %d", m, e, n)
				}
				in := lists(l(1), l(0, 1), nil, l(3, 0, 0), l(0))
				in[at] = sample.Power(of)
				wantComposed(t, f, q, in)
				in[at] = sample.Power(of + 1)
				wantCompose(t, f, q, in, nil, api.ErrLimit)
			}
		}
	}
}

// behind is a value's number where four inputs more stand ahead of the steps.
func behind(v int) int {
	if v == 0 {
		return 0
	}
	return v + 4
}
