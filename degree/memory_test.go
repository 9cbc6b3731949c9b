package degree

// Rule 5: what is handed in stays as it is, and what is answered is new memory.

import (
	"testing"

	"conclave/api"
	"conclave/sample"
)

func TestMemory(t *testing.T) {
	// Lists of numbers are told as Outs, to be held against those that were handed in.
	calls := map[string]func(h []api.Prog) []api.Prog{
		"All":  func(h []api.Prog) []api.Prog { l, _ := All(h[0]); return []api.Prog{{Outs: l}} },
		"Of":   func(h []api.Prog) []api.Prog { Of(h[0]); return nil },
		"Uses": func(h []api.Prog) []api.Prog { l, _ := Uses(h[0]); return []api.Prog{{Outs: l}} },
		"Trim": func(h []api.Prog) []api.Prog { p, _ := Trim(h[0]); return []api.Prog{p} },
		"all": func(h []api.Prog) []api.Prog {
			all, _ := All(h[0])
			uses, _ := Uses(h[0])
			p, _ := Trim(h[0])
			q, _ := Trim(p)
			return []api.Prog{{Outs: all}, {Outs: uses}, p, q}
		},
	}
	some := append(progs(), withOuts(sample.Squares(5), 5, 0), withOuts(sample.Squares(5), 2), withOuts(sample.Squares(5)))
	for _, p := range append(some, sample.NoProgs()...) {
		for what, do := range calls {
			if wrong := sample.ApartProgs(do, p); wrong != "" {
				t.Errorf("%s of %s: %s", what, brief(p), wrong)
			}
		}
	}
}

// Lists without elements are lists that are nil, at each place.
func TestListsWithoutElements(t *testing.T) {
	for _, steps := range [][]api.Op{nil, {}, ops(constant(1))[:0]} {
		for _, none := range [][]int{nil, {}, outs(1)[:0]} {
			p := api.Prog{Inputs: 2, Ops: steps, Outs: none}
			wantAll(t, p, outs(1, 1), api.OK)
			wantOf(t, p, 0, api.OK)
			wantUses(t, p, nil, api.OK)
			wantTrim(t, p, api.Prog{Inputs: 2}, api.OK)
			wantAll(t, api.Prog{Ops: steps, Outs: none}, nil, api.OK)
		}
	}
}
