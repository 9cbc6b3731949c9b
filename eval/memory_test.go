package eval

// Rule 5: what is handed in stays as it is, and what is answered is new memory.

import (
	"slices"
	"testing"

	"conclave/api"
	"conclave/sample"
)

// runs are calls that are handed one list of elements, many ones that are handed any number of lists.
func runs(f api.Field, p api.Prog) (one, many map[string]func(h [][]uint64) [][]uint64) {
	one = map[string]func(h [][]uint64) [][]uint64{
		"Run":        func(h [][]uint64) [][]uint64 { x, _ := Run(f, p, h[0]); return lists(x) },
		"Steps":      func(h [][]uint64) [][]uint64 { x, _ := Steps(f, p, h[0]); return lists(x) },
		"Many twice": func(h [][]uint64) [][]uint64 { x, _ := Many(f, p, h[0], h[0]); return x },
	}
	many = map[string]func(h [][]uint64) [][]uint64{
		"Many":    func(h [][]uint64) [][]uint64 { x, _ := Many(f, p, h...); return x },
		"Compose": func(h [][]uint64) [][]uint64 { x, _ := Compose(f, p, h); return x },
		"Compose of one list": func(h [][]uint64) [][]uint64 {
			if len(h) == 0 {
				return nil
			}
			x, _ := Compose(f, p, slices.Repeat(h[:1], p.Inputs))
			return x
		},
	}
	return one, many
}

func wantApart(t *testing.T, f api.Field, p api.Prog, calls map[string]func(h [][]uint64) [][]uint64, handed ...[]uint64) {
	t.Helper()
	for what, do := range calls {
		if wrong := sample.Apart(do, handed...); wrong != "" {
			t.Errorf("%s, field %d, %s, %s: %s", what, f, brief(p), briefs(handed), wrong)
		}
	}
}

// An input may come out as it is, or twice; a step may change nothing of what it takes.
func passing() []api.Prog {
	return []api.Prog{
		{Inputs: 1, Outs: outs(0)}, {Inputs: 1, Outs: outs(0, 0)}, {Inputs: 2, Outs: outs(1, 0, 1)},
		{Inputs: 1, Ops: ops(constant(0), step(api.OAdd, 0, 1), step(api.OSub, 2, 1), constant(1), step(api.OMul, 3, 4)), Outs: outs(0, 2, 2, 3, 5, 5, 1)},
		{Inputs: 2, Ops: ops(constant(7), constant(0), step(api.OMul, 0, 3)), Outs: outs(2, 2, 3, 3, 4, 1, 1)},
		withOuts(sample.Squares(8), 8, 0, 8, 1, 1),
	}
}

func TestMemory(t *testing.T) {
	for _, f := range sample.Fields() {
		for i, p := range append(passing(), progs()...) {
			one, many := runs(f, p)
			for _, n := range []int{p.Inputs, p.Inputs + 1, 0} {
				wantApart(t, f, p, one, sample.Run(f, i, n))
				wantApart(t, f, p, many, slices.Repeat(lists(sample.Run(f, i, p.Inputs)), n)...)
			}
			wantApart(t, f, p, many, polysFor(f, i, p.Inputs, 3)...)
			wantApart(t, f, p, one, l(sample.Prime(f)))
			wantApart(t, f, p, many, l(1), l(sample.Prime(f)))
			wantApart(t, f, p, many)
		}
		for _, p := range passing() {
			_, many := runs(f, p)
			for _, a := range sample.Polys(f) {
				wantApart(t, f, p, many, slices.Repeat(lists(a), p.Inputs)...)
			}
			wantApart(t, f, p, many, slices.Repeat(lists(sample.Power(4096)), p.Inputs)...)
		}
	}
}

// Programs stay as they are, too.
func TestProgramsAreNotChanged(t *testing.T) {
	for _, f := range sample.Fields() {
		for _, p := range append(passing(), append(progs(), sample.NoProgs()...)...) {
			n := max(0, min(p.Inputs, 64))
			row := sample.Run(f, 1, n)
			polys := polysFor(f, 1, n, 2)
			calls := map[string]func(h []api.Prog) []api.Prog{
				"Run":     func(h []api.Prog) []api.Prog { Run(f, h[0], row); return nil },
				"Steps":   func(h []api.Prog) []api.Prog { Steps(f, h[0], row); return nil },
				"Many":    func(h []api.Prog) []api.Prog { Many(f, h[0], row, row); return nil },
				"Compose": func(h []api.Prog) []api.Prog { Compose(f, h[0], polys); return nil },
			}
			for what, do := range calls {
				if wrong := sample.ApartProgs(do, p); wrong != "" {
					t.Errorf("%s of %s: %s", what, brief(p), wrong)
				}
			}
		}
	}
}

// The list of the rows, or of the polynomials, stays as it is, and the answer's list is another one.
func TestListsOfListsAreNotChanged(t *testing.T) {
	for _, f := range sample.Fields() {
		for n := range 20 {
			p := api.Prog{Inputs: n, Outs: sample.Inputs(n)}
			for what, do := range map[string]func(in [][]uint64) ([][]uint64, api.Errno){
				"Compose": func(in [][]uint64) ([][]uint64, api.Errno) { return Compose(f, p, in) },
				"Compose with steps": func(in [][]uint64) ([][]uint64, api.Errno) {
					q := p
					q.Ops = ops(constant(3), constant(4), step(api.OAdd, n, n+1))
					q.Outs = append(slices.Clone(p.Outs), n+2)
					return Compose(f, q, in)
				},
				"Many": func(in [][]uint64) ([][]uint64, api.Errno) {
					return Many(f, api.Prog{Inputs: 2, Outs: outs(0, 1)}, in...)
				},
			} {
				whole := slices.Repeat(lists(l(3, 1), l(1, 0)), 15)
				answers, e := do(whole[:n])
				if e != api.OK {
					t.Errorf("%s: %d", what, e)
				}
				for _, answer := range answers {
					clear(answer[:cap(answer)])
				}
				clear(answers[:cap(answers)])
				if !same(whole, slices.Repeat(lists(l(3, 1), l(1, 0)), 15)) {
					t.Errorf("%s, field %d, %d lists: they are changed", what, f, n)
				}
			}
		}
	}
}

// Lists without elements are lists that are nil, at each place.
func TestListsWithoutElements(t *testing.T) {
	for _, f := range sample.Fields() {
		for _, none := range lists(nil, l(), l(5)[:0]) {
			for _, steps := range [][]api.Op{nil, {}, ops(constant(1))[:0]} {
				for _, to := range [][]int{nil, {}, outs(1)[:0]} {
					p := api.Prog{Ops: steps, Outs: to}
					wantRun(t, f, p, none, nil, api.OK)
					wantSteps(t, f, p, none, nil, api.OK)
					wantMany(t, f, p, lists(none, nil), lists(nil, nil), api.OK)
					wantCompose(t, f, p, lists(), nil, api.OK)
					wantCompose(t, f, p, lists(none)[:0], nil, api.OK)
					p.Inputs = 1
					wantRun(t, f, p, none, nil, api.ErrShape)
					wantMany(t, f, p, lists(none), nil, api.ErrShape)
					wantCompose(t, f, withOuts(p, 0), lists(none), lists(nil), api.OK)
				}
			}
		}
	}
}
