package slp

// Rule 5: what is handed in stays as it is, and what is answered is new memory.

import (
	"testing"

	"conclave/api"
	"conclave/sample"
)

func TestMemory(t *testing.T) {
	calls := map[string]func(h []api.Prog) []api.Prog{
		"May":  func(h []api.Prog) []api.Prog { May(h[0]); return nil },
		"Same": func(h []api.Prog) []api.Prog { Same(h[0], h[1]); Same(h[0], h[0]); return nil },
		"Text": func(h []api.Prog) []api.Prog { Text(h[0]); return nil },
		"Read": func(h []api.Prog) []api.Prog {
			s, _ := Text(h[0])
			p, _, _ := Read(s)
			q, _, _ := Read(s)
			return []api.Prog{p, q}
		},
		"After": func(h []api.Prog) []api.Prog {
			p, _ := After(h[0], h[1])
			q, _ := After(h[1], h[0])
			return []api.Prog{p, q}
		},
		"After of nothing": func(h []api.Prog) []api.Prog {
			p, _ := After(h[0], api.Prog{Inputs: h[0].Inputs, Outs: sample.Inputs(max(0, min(64, h[0].Inputs)))})
			q, _ := After(api.Prog{Inputs: len(h[0].Outs), Outs: sample.Inputs(len(h[0].Outs))}, h[0])
			return []api.Prog{p, q}
		},
		"After of itself": func(h []api.Prog) []api.Prog { p, _ := After(h[0], h[0]); return []api.Prog{p} },
	}
	some := append(sample.Progs(), sample.Prog(1, 3, 4, 3), sample.Prog(2, 3, 0, 3), sample.Prog(3, 2, 200, 2))
	for _, p := range append(some, sample.NoProgs()...) {
		for _, q := range []api.Prog{{}, p, sample.Prog(4, 3, 5, 3), {Inputs: len(p.Outs), Ops: constants(1), Outs: sample.Inputs(p.Inputs & 63)}} {
			for what, do := range calls {
				if wrong := sample.ApartProgs(do, p, q); wrong != "" {
					t.Errorf("%s of %s and %s: %s", what, brief(p), brief(q), wrong)
				}
			}
		}
	}
}
