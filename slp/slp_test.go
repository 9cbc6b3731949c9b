package slp

// P9.1 to P9.3: what each call answers, and the chapter's examples.

import (
	"fmt"
	"math"
	"slices"
	"strings"
	"testing"

	"conclave/api"
	"conclave/sample"
)

// By the words of the chapter.

func mayBy(p api.Prog) bool {
	if p.Inputs < 0 || p.Inputs > 64 || len(p.Ops) > 256 || len(p.Outs) > 64 {
		return false
	}
	values := p.Inputs
	for _, op := range p.Ops {
		ofValues := min(op.A, op.B) >= 0 && max(op.A, op.B) < values && op.C == 0
		switch op.Kind {
		case 1, 2, 3:
			if !ofValues {
				return false
			}
		case 4:
			if op.A != 0 || op.B != 0 {
				return false
			}
		default:
			return false
		}
		values++
	}
	return len(p.Outs) == 0 || slices.Min(p.Outs) >= 0 && slices.Max(p.Outs) < values
}

// names are how a program's values are written.
func names(p api.Prog) []string {
	var all []string
	for i := range p.Inputs {
		all = append(all, fmt.Sprintf("x%d", i))
	}
	for i := range p.Ops {
		all = append(all, fmt.Sprintf("t%d", i))
	}
	return all
}

func textBy(p api.Prog) string {
	all := names(p)
	lines := []string{fmt.Sprintf("inputs %d", p.Inputs)}
	for i, op := range p.Ops {
		line := fmt.Sprintf("t%d = %d", i, op.C)
		if op.Kind != api.OConst {
			line = fmt.Sprintf("t%d = %s %c %s", i, all[op.A], "?+-*"[op.Kind], all[op.B])
		}
		lines = append(lines, line)
	}
	outs := []string{"outs"}
	for _, out := range p.Outs {
		outs = append(outs, all[out])
	}
	return strings.Join(append(lines, strings.Join(outs, " ")), "\n") + "\n"
}

// afterBy finds where each of p's values has come to, one by one.
func afterBy(p, q api.Prog) api.Prog {
	places := slices.Clone(q.Outs)
	both := api.Prog{Inputs: q.Inputs, Ops: slices.Clone(q.Ops)}
	for _, op := range p.Ops {
		if op.Kind != api.OConst {
			op = api.Op{Kind: op.Kind, A: places[op.A], B: places[op.B]}
		}
		places = append(places, both.Inputs+len(both.Ops))
		both.Ops = append(both.Ops, op)
	}
	for _, out := range p.Outs {
		both.Outs = append(both.Outs, places[out])
	}
	return both
}

// runBy are the values of the Outs, reckoned with numbers that wrap round.
func runBy(p api.Prog, in []uint64) []uint64 {
	values := slices.Clone(in)
	for _, op := range p.Ops {
		switch op.Kind {
		case api.OAdd:
			values = append(values, values[op.A]+values[op.B])
		case api.OSub:
			values = append(values, values[op.A]-values[op.B])
		case api.OMul:
			values = append(values, values[op.A]*values[op.B])
		case api.OConst:
			values = append(values, op.C)
		}
	}
	var outs []uint64
	for _, out := range p.Outs {
		outs = append(outs, values[out])
	}
	return outs
}

// equal looks at a program's fields alone, not by Same.
func equal(p, q api.Prog) bool {
	return fmt.Sprint(p.Inputs, p.Ops, p.Outs) == fmt.Sprint(q.Inputs, q.Ops, q.Outs)
}

// brief tells a program that may be long.
func brief(p api.Prog) string { return fmt.Sprintf("%.300s", fmt.Sprint(p)) }

func wantMay(t *testing.T, p api.Prog, answer bool) {
	t.Helper()
	if May(p) != answer {
		t.Errorf("May(%s) is not %t", brief(p), answer)
	}
}

func wantSame(t *testing.T, p, q api.Prog, answer bool) {
	t.Helper()
	if Same(p, q) != answer || Same(q, p) != answer {
		t.Errorf("Same(%s, %s) = %t, %t, not %t", brief(p), brief(q), Same(p, q), Same(q, p), answer)
	}
}

func wantText(t *testing.T, p api.Prog, answer string, e api.Errno) {
	t.Helper()
	if s, got := Text(p); s != answer || got != e {
		t.Errorf("Text(%s) = %.300q, %d, not %.300q, %d", brief(p), s, got, answer, e)
	}
}

func wantRead(t *testing.T, s string, answer api.Prog, line int, e api.Errno) {
	t.Helper()
	if p, gotLine, got := Read(s); !equal(p, answer) || gotLine != line || got != e {
		t.Errorf("Read(%.300q, of %d) = %s, %d, %d, not %s, %d, %d", s, len(s), brief(p), gotLine, got, brief(answer), line, e)
	}
}

func wantAfter(t *testing.T, p, q, answer api.Prog, e api.Errno) {
	t.Helper()
	if r, got := After(p, q); !equal(r, answer) || got != e {
		t.Errorf("After(%s, %s) = %s, %d, not %s, %d", brief(p), brief(q), brief(r), got, brief(answer), e)
	}
}

func constant(c uint64) api.Op { return api.Op{Kind: api.OConst, C: c} }

func step(kind api.OpKind, a, b int) api.Op { return api.Op{Kind: kind, A: a, B: b} }

func ops(l ...api.Op) []api.Op { return l }

// constants are so many steps that are one.
func constants(n int) []api.Op { return slices.Repeat(ops(constant(7)), n) }

// P9.1

func TestMay(t *testing.T) {
	for _, p := range sample.Progs() {
		wantMay(t, p, true)
	}
	for _, p := range sample.NoProgs() {
		wantMay(t, p, false)
	}
	for from := range 300 {
		wantMay(t, sample.Prog(from, from%65, from%257, from*7%65), true)
	}
}

func TestMayAtItsLimits(t *testing.T) {
	for n, answer := range map[int]bool{math.MinInt: false, -2: false, -1: false, 0: true, 1: true, 63: true, 64: true, 65: false, 1000: false, math.MaxInt: false} {
		wantMay(t, api.Prog{Inputs: n}, answer)
		wantMay(t, api.Prog{Inputs: n, Ops: constants(1), Outs: []int{0}}, answer)
	}
	for n, answer := range map[int]bool{0: true, 1: true, 255: true, 256: true, 257: false, 1000: false} {
		wantMay(t, api.Prog{Ops: constants(n)}, answer)
		wantMay(t, api.Prog{Inputs: 64, Ops: slices.Repeat(ops(step(api.OMul, 63, 0)), n)}, answer)
	}
	for n, answer := range map[int]bool{0: true, 1: true, 63: true, 64: true, 65: false, 256: false, 1000: false} {
		wantMay(t, api.Prog{Inputs: 1, Outs: make([]int, n)}, answer)
		wantMay(t, api.Prog{Ops: constants(256), Outs: slices.Repeat([]int{255}, n)}, answer)
	}
}

// A step of each kind, of each two values about those that there are.
func TestMayOfOneStep(t *testing.T) {
	for inputs := range 4 {
		for ahead := range 3 {
			for kind := range 7 {
				for a := -2; a < 9; a++ {
					for b := -2; b < 9; b++ {
						for c := range uint64(2) {
							op := api.Op{Kind: api.OpKind(kind), A: a, B: b, C: c}
							p := api.Prog{Inputs: inputs, Ops: append(constants(ahead), op, constant(1))}
							wantMay(t, p, mayBy(p))
						}
					}
				}
			}
		}
	}
}

func TestMayOfOneOut(t *testing.T) {
	for inputs := range 4 {
		for steps := range 4 {
			for out := -3; out < 10; out++ {
				p := api.Prog{Inputs: inputs, Ops: constants(steps), Outs: []int{out}}
				wantMay(t, p, out >= 0 && out < inputs+steps)
			}
		}
	}
}

func TestSame(t *testing.T) {
	progs := append(sample.Progs(), sample.NoProgs()...)
	for i, p := range progs {
		for j, q := range progs {
			if i%9 == j%9 || i < 30 {
				wantSame(t, p, q, equal(p, q))
			}
		}
	}
}

// Programs that differ in one thing alone are not the same, whether they may be or not.
func TestSameButForOneThing(t *testing.T) {
	p := api.Prog{Inputs: 2, Ops: ops(step(api.OMul, 0, 1), constant(5)), Outs: []int{3, 2}}
	for _, q := range []api.Prog{
		{Inputs: 3, Ops: p.Ops, Outs: p.Outs},
		{Inputs: -2, Ops: p.Ops, Outs: p.Outs},
		{Inputs: 2, Ops: ops(step(api.OAdd, 0, 1), constant(5)), Outs: p.Outs},
		{Inputs: 2, Ops: ops(step(api.NoOp, 0, 1), constant(5)), Outs: p.Outs},
		{Inputs: 2, Ops: ops(step(api.OMul, 1, 1), constant(5)), Outs: p.Outs},
		{Inputs: 2, Ops: ops(step(api.OMul, 0, 0), constant(5)), Outs: p.Outs},
		{Inputs: 2, Ops: ops(step(api.OMul, 1, 0), constant(5)), Outs: p.Outs},
		{Inputs: 2, Ops: ops(step(api.OMul, 0, 1), constant(5+1<<32)), Outs: p.Outs},
		{Inputs: 2, Ops: ops(constant(5), step(api.OMul, 0, 1)), Outs: p.Outs},
		{Inputs: 2, Ops: p.Ops[:1], Outs: p.Outs},
		{Inputs: 2, Ops: append(p.Ops[:2:2], constant(5)), Outs: p.Outs},
		{Inputs: 2, Outs: p.Outs},
		{Inputs: 2, Ops: p.Ops, Outs: []int{3, 3}},
		{Inputs: 2, Ops: p.Ops, Outs: []int{2, 3}},
		{Inputs: 2, Ops: p.Ops, Outs: []int{3}},
		{Inputs: 2, Ops: p.Ops, Outs: []int{3, 2, 2}},
		{Inputs: 2, Ops: p.Ops},
		{},
	} {
		wantSame(t, p, q, false)
		wantSame(t, q, q, true)
	}
	for _, steps := range [][]api.Op{nil, {}, p.Ops[:0]} {
		for _, outs := range [][]int{nil, {}, p.Outs[:0]} {
			wantSame(t, api.Prog{Inputs: 7, Ops: steps, Outs: outs}, api.Prog{Inputs: 7}, true)
			wantSame(t, api.Prog{Inputs: -7, Ops: steps, Outs: outs}, api.Prog{Inputs: -7}, true)
			wantSame(t, api.Prog{Inputs: 7, Ops: steps, Outs: p.Outs}, api.Prog{Inputs: 7, Outs: p.Outs}, true)
			wantSame(t, api.Prog{Inputs: 7, Ops: p.Ops, Outs: outs}, api.Prog{Inputs: 7, Ops: p.Ops}, true)
		}
	}
}

// P9.2

func TestText(t *testing.T) {
	for _, p := range sample.Progs() {
		wantText(t, p, textBy(p), api.OK)
		wantRead(t, textBy(p), p, 0, api.OK)
	}
	for from := range 300 {
		p := sample.Prog(from, from%65, from%257, from*7%65)
		wantText(t, p, textBy(p), api.OK)
		wantRead(t, textBy(p), p, 0, api.OK)
	}
}

func TestTextByHand(t *testing.T) {
	for s, p := range map[string]api.Prog{
		"inputs 0\nouts\n":                                           {},
		"inputs 64\nouts\n":                                          {Inputs: 64},
		"inputs 1\nouts x0\n":                                        {Inputs: 1, Outs: []int{0}},
		"inputs 64\nouts x63 x0 x9 x10\n":                            {Inputs: 64, Outs: []int{63, 0, 9, 10}},
		"inputs 0\nt0 = 0\nouts t0\n":                                {Ops: ops(constant(0)), Outs: []int{0}},
		"inputs 2\nt0 = 18446744073709551615\nouts t0 x1\n":          {Inputs: 2, Ops: ops(constant(math.MaxUint64)), Outs: []int{2, 1}},
		"inputs 1\nt0 = x0 + x0\nouts\n":                             {Inputs: 1, Ops: ops(step(api.OAdd, 0, 0))},
		"inputs 2\nt0 = x1 - x0\nt1 = t0 - x1\nouts t1\n":            {Inputs: 2, Ops: ops(step(api.OSub, 1, 0), step(api.OSub, 2, 1)), Outs: []int{3}},
		"inputs 0\nt0 = 9\nt1 = t0 * t0\nt2 = t1 * t0\nouts t2 t2\n": {Ops: ops(constant(9), step(api.OMul, 0, 0), step(api.OMul, 1, 0)), Outs: []int{2, 2}},
	} {
		wantText(t, p, s, api.OK)
		wantRead(t, s, p, 0, api.OK)
	}
}

func TestTextOfMuch(t *testing.T) {
	for _, inputs := range []int{0, 1, 64} {
		p := api.Prog{Inputs: inputs, Ops: constants(256), Outs: slices.Repeat([]int{inputs + 255, inputs}, 32)}
		s := fmt.Sprintf("inputs %d\n", inputs)
		for i := range 256 {
			s += fmt.Sprintf("t%d = 7\n", i)
		}
		s += "outs" + strings.Repeat(" t255 t0", 32) + "\n"
		wantText(t, p, s, api.OK)
		wantRead(t, s, p, 0, api.OK)
	}
}

// P9.3

func TestAfter(t *testing.T) {
	fitting := 0
	for _, p := range sample.Progs() {
		for _, q := range sample.Progs() {
			if len(q.Outs) == p.Inputs && len(q.Ops)+len(p.Ops) <= 256 {
				wantAfter(t, p, q, afterBy(p, q), api.OK)
				fitting++
			}
		}
	}
	if fitting < 50 {
		t.Errorf("only %d fit", fitting)
	}
}

// Programs that fit, of each number of steps, and what they do.
func TestAfterDoesTheOneBehindTheOther(t *testing.T) {
	for from := range 200 {
		between := 1 + from%9
		q := sample.Prog(from, 1+from%4, from%11, between)
		p := sample.Prog(2*from, between, from%7, from%5)
		both := afterBy(p, q)
		wantAfter(t, p, q, both, api.OK)
		wantMay(t, both, true)
		r, _ := After(p, q)
		if len(r.Ops) != len(q.Ops)+len(p.Ops) || !slices.Equal(r.Ops[:len(q.Ops)], q.Ops) {
			t.Fatalf("After(%s, %s) = %s: q's steps are not the first ones", brief(p), brief(q), brief(r))
		}
		in := sample.Scattered(api.Large, q.Inputs)
		if got, want := runBy(r, in), runBy(p, runBy(q, in)); !slices.Equal(got, want) {
			t.Errorf("After(%s, %s) = %s makes %d of %d, not %d", brief(p), brief(q), brief(r), got, in, want)
		}
	}
}

func TestAfterByHand(t *testing.T) {
	square := api.Prog{Inputs: 1, Ops: ops(step(api.OMul, 0, 0)), Outs: []int{1}}
	wantAfter(t, square, square, api.Prog{Inputs: 1, Ops: ops(step(api.OMul, 0, 0), step(api.OMul, 1, 1)), Outs: []int{2}}, api.OK)
	// The one behind has fewer inputs than the one ahead, or more.
	less := api.Prog{Inputs: 2, Ops: ops(step(api.OSub, 0, 1)), Outs: []int{2}}
	wantAfter(t, square, less, api.Prog{Inputs: 2, Ops: ops(step(api.OSub, 0, 1), step(api.OMul, 2, 2)), Outs: []int{3}}, api.OK)
	twice := api.Prog{Inputs: 1, Ops: ops(step(api.OMul, 0, 0)), Outs: []int{1, 0}}
	wantAfter(t, less, twice, api.Prog{Inputs: 1, Ops: ops(step(api.OMul, 0, 0), step(api.OSub, 1, 0)), Outs: []int{2}}, api.OK)
	// An Out of the whole that is an input of p is q's Out, and may be an input of q.
	through := api.Prog{Inputs: 2, Ops: ops(step(api.OAdd, 0, 1)), Outs: []int{1, 2, 0}}
	wantAfter(t, through, twice, api.Prog{Inputs: 1, Ops: ops(step(api.OMul, 0, 0), step(api.OAdd, 1, 0)), Outs: []int{0, 2, 1}}, api.OK)
	// A constant stays as it is.
	added := api.Prog{Inputs: 1, Ops: ops(constant(9), step(api.OAdd, 1, 0)), Outs: []int{2}}
	wantAfter(t, added, less, api.Prog{Inputs: 2, Ops: ops(step(api.OSub, 0, 1), constant(9), step(api.OAdd, 3, 2)), Outs: []int{4}}, api.OK)
}

func TestAfterWithoutSteps(t *testing.T) {
	turned := api.Prog{Inputs: 2, Outs: []int{1, 0}}
	less := api.Prog{Inputs: 2, Ops: ops(step(api.OSub, 0, 1)), Outs: []int{2, 0}}
	wantAfter(t, less, turned, api.Prog{Inputs: 2, Ops: ops(step(api.OSub, 1, 0)), Outs: []int{2, 1}}, api.OK)
	wantAfter(t, turned, less, api.Prog{Inputs: 2, Ops: ops(step(api.OSub, 0, 1)), Outs: []int{0, 2}}, api.OK)
	wantAfter(t, turned, turned, api.Prog{Inputs: 2, Outs: []int{0, 1}}, api.OK)
	wantAfter(t, api.Prog{Inputs: 2, Outs: []int{1}}, turned, api.Prog{Inputs: 2, Outs: []int{0}}, api.OK)
	wantAfter(t, api.Prog{}, api.Prog{}, api.Prog{}, api.OK)
	wantAfter(t, api.Prog{}, api.Prog{Inputs: 5}, api.Prog{Inputs: 5}, api.OK)
	wantAfter(t, api.Prog{Ops: constants(1), Outs: []int{0}}, api.Prog{Inputs: 5}, api.Prog{Inputs: 5, Ops: constants(1), Outs: []int{5}}, api.OK)
}

// The examples of the chapter.

func TestExamples(t *testing.T) {
	p := api.Prog{Inputs: 2, Ops: ops(step(api.OMul, 0, 1), step(api.OAdd, 2, 0), constant(5)), Outs: []int{3}}
	wantText(t, p, "inputs 2\nt0 = x0 * x1\nt1 = t0 + x0\nt2 = 5\nouts t1\n", api.OK)
	wantText(t, api.Prog{}, "inputs 0\nouts\n", api.OK)
	wantRead(t, "inputs 1\nt0 = x0 + t0\nouts\n", api.Prog{}, 2, api.ErrLine)
	wantRead(t, "inputs 01\n", api.Prog{}, 1, api.ErrLine)
	wantRead(t, "", api.Prog{}, 1, api.ErrLine)
	wantRead(t, "inputs 1\n", api.Prog{}, 2, api.ErrLine)
	wantMay(t, api.Prog{Inputs: 1, Ops: ops(step(api.OAdd, 0, 1))}, false)
	wantMay(t, api.Prog{Inputs: 65}, false)
	square := api.Prog{Inputs: 1, Ops: ops(step(api.OMul, 0, 0)), Outs: []int{1}}
	three := api.Prog{Inputs: 1, Ops: ops(constant(3), step(api.OAdd, 0, 1)), Outs: []int{2}}
	wantAfter(t, square, three, api.Prog{Inputs: 1, Ops: ops(constant(3), step(api.OAdd, 0, 1), step(api.OMul, 2, 2)), Outs: []int{3}}, api.OK)
}
