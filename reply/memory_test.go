package reply

// Rule 5: what is handed in stays as it is, and what is answered is new memory; and nothing is kept from call to call.

import (
	"slices"
	"testing"

	"conclave/api"
	"conclave/sample"
)

// some are plans that are tried for their memory: ordinary ones, the limits, and one that may not be.
func some() []api.Plan {
	return append(ordinary(), sample.Plan(1, 1, 0, 0, 0, 1), sample.With(sample.Plan(64, 32, 32, 0, 0, 1), api.Large, 2), sample.With(sample.Plan(3, 2, 1, 0, 0, 1), api.Small, 64), sample.Plan(0, 2, 1, 0, 0, 1))
}

// passing are programs by which an input comes out as it is, or twice, or nothing does; and some that do not fit.
func passing(p api.Plan) []api.Prog {
	w := p.Width
	return append(programs(p)[:min(len(programs(p)), 9)],
		api.Prog{Inputs: w, Ops: ops(constant(0), step(api.OAdd, 0, w), constant(1), step(api.OMul, w-1, w+2)), Outs: outs(0, w+1, w+1, w+3, w-1, w)},
		api.Prog{Inputs: w + 1}, raised(w, p.Degree+1), api.Prog{Inputs: w, Outs: outs(w)})
}

// calls are the calls that answer lists, handed the data blocks, the pads and a share, one behind the other.
func calls(p api.Plan, prog api.Prog) map[string]func(h [][]uint64) [][]uint64 {
	k, n := p.K, p.K+p.T
	return map[string]func(h [][]uint64) [][]uint64{
		"Reply":   func(h [][]uint64) [][]uint64 { x, _ := Reply(p, prog, h[n]); return lists(x) },
		"Results": func(h [][]uint64) [][]uint64 { x, _ := Results(p, prog, h[:k]); return x },
		"Polys":   func(h [][]uint64) [][]uint64 { x, _ := Polys(p, prog, h[:k], h[k:n]); return x },
		"Honest": func(h [][]uint64) [][]uint64 {
			x, _ := Honest(p, prog, h[:k], h[k:n], 0)
			y, _ := Honest(p, prog, h[:k], h[k:n], p.N-1)
			return lists(x, y)
		},
		"all of one block": func(h [][]uint64) [][]uint64 {
			same := slices.Repeat(h[:1], n)
			reply, _ := Reply(p, prog, h[0])
			results, _ := Results(p, prog, same[:k])
			polys, _ := Polys(p, prog, same[:k], same[k:])
			honest, _ := Honest(p, prog, same[:k], same[k:], 0)
			return slices.Concat(results, polys, lists(reply, honest))
		},
	}
}

func TestMemory(t *testing.T) {
	for _, p := range some() {
		n := p.K + p.T + 1
		fine := sample.Blocks(p.Field, 3, n, p.Width)
		handed := [][][]uint64{fine, sample.EqualBlocks(0, n, p.Width), sample.Put(fine, 0, 0, sample.Prime(p.Field)), slices.Repeat(lists(l(1)), n), slices.Repeat(lists(nil), n)}
		for _, prog := range passing(p) {
			for _, blocks := range handed {
				for what, do := range calls(p, prog) {
					if wrong := sample.Apart(do, blocks...); wrong != "" {
						t.Errorf("%s(%v, %s): %s", what, p, briefProg(prog), wrong)
					}
				}
			}
		}
	}
}

func TestProgramsAreNotChanged(t *testing.T) {
	for _, p := range some() {
		in := good(p)
		for _, prog := range append(passing(p), sample.Prog(11, 2, 6, 5), withOuts(in.prog)) {
			if wrong := sample.ApartProgs(func(h []api.Prog) []api.Prog {
				Fits(p, h[0])
				Reply(p, h[0], in.share)
				Results(p, h[0], in.data)
				Polys(p, h[0], in.data, in.pads)
				Honest(p, h[0], in.data, in.pads, in.worker)
				return nil
			}, prog); wrong != "" {
				t.Errorf("%v, %s: %s", p, briefProg(prog), wrong)
			}
		}
	}
}

// Of lists of lists, too, none that is handed in is changed, and no two share their memory, the room behind their ends counted.
func TestListsOfLists(t *testing.T) {
	for _, p := range some() {
		in := good(p)
		for _, prog := range passing(p) {
			if wrong := sample.ApartBlocks(func(h [][][]uint64) [][][]uint64 {
				results, _ := Results(p, prog, h[0])
				polys, _ := Polys(p, prog, h[0], h[1])
				Honest(p, prog, h[0], h[1], 0)
				return [][][]uint64{results, polys}
			}, in.data, in.pads); wrong != "" {
				t.Errorf("%v, %s: %s", p, briefProg(prog), wrong)
			}
		}
	}
}

// Lists without elements are lists that are nil, at each place.
func TestListsWithoutElements(t *testing.T) {
	for _, f := range sample.Fields() {
		plain, padded := sample.With(sample.Plan(2, 1, 0, 0, 0, 1), f, 1), sample.With(sample.Plan(2, 1, 1, 0, 0, 1), f, 1)
		for _, prog := range []api.Prog{{Inputs: 1}, {Inputs: 1, Ops: []api.Op{}, Outs: []int{}}, {Inputs: 1, Ops: ops(constant(1))[:0], Outs: outs(0)[:0]}} {
			wantFits(t, plain, prog, api.OK)
			wantReply(t, plain, prog, l(4), nil, api.OK)
			wantResults(t, plain, prog, single(4), lists(nil), api.OK)
			wantPolys(t, plain, prog, single(4), nil, nil, api.OK)
			wantHonest(t, plain, prog, single(4), nil, 1, nil, api.OK)
		}
		prog := api.Prog{Inputs: 1, Ops: []api.Op{}, Outs: outs(0)}
		for _, none := range [][][]uint64{nil, {}, single(4)[:0]} {
			wantPolys(t, plain, prog, single(4), none, single(4), api.OK)
			wantHonest(t, plain, prog, single(4), none, 1, l(4), api.OK)
			wantResults(t, plain, prog, none, nil, api.ErrShape)
			wantPolys(t, padded, prog, single(4), none, nil, api.ErrShape)
			wantHonest(t, padded, prog, none, single(4), 0, nil, api.ErrShape)
		}
		for _, none := range lists(nil, l(), l(4)[:0]) {
			wantReply(t, plain, prog, none, nil, api.ErrShape)
			wantResults(t, plain, prog, lists(none), nil, api.ErrShape)
			wantPolys(t, plain, prog, lists(none), nil, nil, api.ErrShape)
			wantHonest(t, padded, prog, single(4), lists(none), 0, nil, api.ErrShape)
		}
	}
}

// answers is all that the calls tell, in one list.
func answers(in input) []uint64 {
	reply, e := Reply(in.p, in.prog, in.share)
	results, e2 := Results(in.p, in.prog, in.data)
	polys, e3 := Polys(in.p, in.prog, in.data, in.pads)
	honest, e4 := Honest(in.p, in.prog, in.data, in.pads, in.worker)
	errors := l(uint64(Fits(in.p, in.prog)), uint64(e), uint64(e2), uint64(e3), uint64(e4))
	return slices.Concat(slices.Concat(results, polys, lists(reply, honest, errors))...)
}

// Again, in the other order: the same comes out, also behind calls that answered an error.
func TestNothingIsKept(t *testing.T) {
	plans := some()
	var first [][]uint64
	for _, p := range plans {
		first = append(first, answers(good(p)))
		answers(input{p: p, prog: raised(1, 1025)})
		answers(input{p: p, prog: good(p).prog, share: l(sample.Prime(p.Field)), worker: -1})
	}
	for i, p := range slices.Backward(plans) {
		if again := answers(good(p)); !slices.Equal(again, first[i]) {
			t.Errorf("of %v, then %s, and again %s", p, sample.Brief(first[i]), sample.Brief(again))
		}
	}
}
