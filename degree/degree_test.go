package degree

// P10.1 and P10.2: what each call answers, and the chapter's examples.

import (
	"fmt"
	"math/big"
	"slices"
	"testing"

	"conclave/api"
	"conclave/sample"
	"conclave/slp"
)

// By the words of the chapter.

// degreesBy are the degrees of all values, with no bound.
func degreesBy(p api.Prog) []*big.Int {
	all := []*big.Int{}
	for range p.Inputs {
		all = append(all, big.NewInt(1))
	}
	for _, op := range p.Ops {
		n := new(big.Int)
		switch op.Kind {
		case api.OAdd, api.OSub:
			n.Set(all[op.A])
			if all[op.B].Cmp(n) > 0 {
				n.Set(all[op.B])
			}
		case api.OMul:
			n.Add(all[op.A], all[op.B])
		}
		all = append(all, n)
	}
	return all
}

func outsBy(p api.Prog) []*big.Int {
	all := degreesBy(p)
	var outs []*big.Int
	for _, out := range p.Outs {
		outs = append(outs, all[out])
	}
	return outs
}

// bounded are degrees as numbers, unless one of them is above 1024.
func bounded(degrees []*big.Int) ([]int, api.Errno) {
	var l []int
	for _, n := range degrees {
		if n.Cmp(big.NewInt(1024)) > 0 {
			return nil, api.ErrLimit
		}
		l = append(l, int(n.Int64()))
	}
	return l, api.OK
}

func allBy(p api.Prog) ([]int, api.Errno) { return bounded(degreesBy(p)) }

func ofBy(p api.Prog) (int, api.Errno) {
	l, e := bounded(outsBy(p))
	if len(l) == 0 {
		return 0, e
	}
	return slices.Max(l), e
}

// hangs finds whether a value hangs on another one, from the value on down; a step that was gone through is not gone through again.
func hangs(p api.Prog, v, on int, gone map[int]bool) bool {
	if v == on {
		return true
	}
	if gone[v] || v < p.Inputs || p.Ops[v-p.Inputs].Kind == api.OConst {
		return false
	}
	gone[v] = true
	op := p.Ops[v-p.Inputs]
	return hangs(p, op.A, on, gone) || hangs(p, op.B, on, gone)
}

func outHangs(p api.Prog, on int) bool {
	return slices.ContainsFunc(p.Outs, func(out int) bool { return hangs(p, out, on, map[int]bool{}) })
}

func usesBy(p api.Prog) []int {
	return slices.DeleteFunc(sample.Inputs(p.Inputs), func(i int) bool { return !outHangs(p, i) })
}

// without takes one step away on which nothing hangs, and numbers what stands behind it anew.
func without(p api.Prog, i int) api.Prog {
	down := func(v int) int {
		if v > p.Inputs+i {
			return v - 1
		}
		return v
	}
	less := api.Prog{Inputs: p.Inputs, Ops: slices.Delete(slices.Clone(p.Ops), i, i+1), Outs: slices.Clone(p.Outs)}
	for j, op := range less.Ops {
		less.Ops[j].A, less.Ops[j].B = down(op.A), down(op.B)
	}
	for j, out := range less.Outs {
		less.Outs[j] = down(out)
	}
	return less
}

// trimBy takes one step after the other away, from the last one on.
func trimBy(p api.Prog) api.Prog {
	for i := len(p.Ops) - 1; i >= 0; i-- {
		if !outHangs(p, p.Inputs+i) {
			p = without(p, i)
		}
	}
	return p
}

func brief(p api.Prog) string { return fmt.Sprintf("%.300s", fmt.Sprint(p)) }

func wantAll(t *testing.T, p api.Prog, answer []int, e api.Errno) {
	t.Helper()
	if l, got := All(p); !slices.Equal(l, answer) || got != e {
		t.Errorf("All(%s) = %.300s, %d, not %.300s, %d", brief(p), fmt.Sprint(l), got, fmt.Sprint(answer), e)
	}
}

func wantOf(t *testing.T, p api.Prog, answer int, e api.Errno) {
	t.Helper()
	if n, got := Of(p); n != answer || got != e {
		t.Errorf("Of(%s) = %d, %d, not %d, %d", brief(p), n, got, answer, e)
	}
}

func wantUses(t *testing.T, p api.Prog, answer []int, e api.Errno) {
	t.Helper()
	if l, got := Uses(p); !slices.Equal(l, answer) || got != e {
		t.Errorf("Uses(%s) = %d, %d, not %d, %d", brief(p), l, got, answer, e)
	}
}

func wantTrim(t *testing.T, p, answer api.Prog, e api.Errno) {
	t.Helper()
	if q, got := Trim(p); !slp.Same(q, answer) || got != e {
		t.Errorf("Trim(%s) = %s, %d, not %s, %d", brief(p), brief(q), got, brief(answer), e)
	}
}

// wantDegrees holds All and Of against the words.
func wantDegrees(t *testing.T, p api.Prog) {
	t.Helper()
	l, e := allBy(p)
	wantAll(t, p, l, e)
	n, e := ofBy(p)
	wantOf(t, p, n, e)
}

// wantHanging holds Uses and Trim against the words.
func wantHanging(t *testing.T, p api.Prog) {
	t.Helper()
	wantUses(t, p, usesBy(p), api.OK)
	wantTrim(t, p, trimBy(p), api.OK)
}

func constant(c uint64) api.Op { return api.Op{Kind: api.OConst, C: c} }

func step(kind api.OpKind, a, b int) api.Op { return api.Op{Kind: kind, A: a, B: b} }

func ops(l ...api.Op) []api.Op { return l }

func outs(l ...int) []int { return l }

// withOuts is p with other Outs.
func withOuts(p api.Prog, l ...int) api.Prog {
	p.Outs = l
	return p
}

func last(p api.Prog) int { return p.Inputs + len(p.Ops) - 1 }

// progs are many programs that may be, low ones and steep ones.
func progs() []api.Prog {
	all := append(sample.Progs(), sample.Squares(256), sample.Raise(1024), sample.Raise(1025), sample.Steep(1, 64, 256, 64), sample.Steep(2, 0, 256, 64), sample.Steep(4, 1, 256, 64))
	for from := range 120 {
		all = append(all, sample.Prog(from, from*5%65, from%31, from*3%65), sample.Prog(from, from%3, from*11%257, from%5))
		all = append(all, sample.Steep(from, from%7, from%41, from%4), sample.Steep(from, 1+from%2, from*7%150, 1+from%9))
	}
	return all
}

// P10.1

func TestDegrees(t *testing.T) {
	kinds := map[string]int{}
	for _, p := range progs() {
		wantDegrees(t, p)
		_, all := allBy(p)
		_, of := ofBy(p)
		kinds[fmt.Sprint(all, of)]++
	}
	// Of all that there may be, many: each within, one above that comes out, one that does not.
	for _, kind := range []string{"error 0 error 0", "error 4 error 4", "error 4 error 0"} {
		if kinds[kind] < 20 {
			t.Errorf("of %s only %d", kind, kinds[kind])
		}
	}
}

// A step of each kind, of each two values of these degrees: 1, 1, 0, 2, 3, 4, 0.
func TestDegreeOfOneStep(t *testing.T) {
	ahead := api.Prog{Inputs: 2, Ops: ops(constant(9), step(api.OMul, 0, 1), step(api.OMul, 0, 3), step(api.OMul, 3, 3), constant(0))}
	degrees := []int{1, 1, 0, 2, 3, 4, 0}
	wantAll(t, ahead, degrees, api.OK)
	with := func(op api.Op, answer int) {
		p := api.Prog{Inputs: 2, Ops: append(slices.Clone(ahead.Ops), op), Outs: outs(7)}
		wantAll(t, p, append(slices.Clone(degrees), answer), api.OK)
		wantOf(t, p, answer, api.OK)
	}
	for a, m := range degrees {
		for b, n := range degrees {
			with(step(api.OAdd, a, b), max(m, n))
			with(step(api.OSub, a, b), max(m, n))
			with(step(api.OMul, a, b), m+n)
		}
	}
	for _, c := range sample.Elements(api.Large) {
		with(constant(c), 0)
	}
}

func TestDegreesByHand(t *testing.T) {
	wantAll(t, api.Prog{}, nil, api.OK)
	wantOf(t, api.Prog{}, 0, api.OK)
	for n := range 65 {
		p := api.Prog{Inputs: n}
		wantAll(t, p, slices.Repeat(outs(1), n), api.OK)
		wantOf(t, p, 0, api.OK)
		wantOf(t, withOuts(p, sample.Inputs(n)...), min(n, 1), api.OK)
	}
	// Of constants alone nothing but constants comes, however they are put together.
	consts := api.Prog{Ops: ops(constant(7), constant(0), step(api.OMul, 0, 0), step(api.OAdd, 2, 1), step(api.OSub, 3, 3), step(api.OMul, 4, 2)), Outs: outs(5, 0)}
	wantAll(t, consts, make([]int, 6), api.OK)
	wantOf(t, consts, 0, api.OK)
	// It is a bound: what is 0 for all inputs has a degree too.
	nought := api.Prog{Inputs: 1, Ops: ops(step(api.OMul, 0, 0), step(api.OSub, 1, 1), constant(0), step(api.OMul, 1, 3)), Outs: outs(2)}
	wantAll(t, nought, outs(1, 2, 2, 0, 2), api.OK)
	wantOf(t, nought, 2, api.OK)
	// The greatest one of Outs, wherever it stands; what does not come out does not count.
	p := api.Prog{Inputs: 2, Ops: ops(step(api.OMul, 0, 1), step(api.OMul, 2, 2), constant(3))}
	for _, c := range []struct {
		outs   []int
		degree int
	}{{nil, 0}, {outs(4), 0}, {outs(0), 1}, {outs(1, 4), 1}, {outs(2), 2}, {outs(3), 4}, {outs(3, 2, 0, 4), 4}, {outs(0, 3, 2), 4}, {outs(4, 0, 2, 3), 4}, {outs(2, 2, 4, 4), 2}, {outs(4, 0), 1}} {
		wantOf(t, withOuts(p, c.outs...), c.degree, api.OK)
	}
}

// Each degree up to the bound and some above it.
func TestDegreesAboutTheBound(t *testing.T) {
	for n := 1; n <= 1300; n++ {
		p := sample.Raise(n)
		if n <= 1024 {
			wantOf(t, p, n, api.OK)
			if l, e := All(p); e != api.OK || l[last(p)] != n {
				t.Errorf("All(%s) = %d, %d", brief(p), l, e)
			}
			continue
		}
		wantOf(t, p, 0, api.ErrLimit)
		wantAll(t, p, nil, api.ErrLimit)
		// It does not count, if it does not come out.
		wantOf(t, withOuts(p), 0, api.OK)
		wantOf(t, withOuts(p, 0), 1, api.OK)
		wantOf(t, withOuts(p, 0, last(p)), 0, api.ErrLimit)
		wantAll(t, withOuts(p), nil, api.ErrLimit)
		wantAll(t, withOuts(p, 0), nil, api.ErrLimit)
	}
}

// Behind a degree at the bound, or one past it, comes a step of each kind.
func TestDegreesBehindTheBound(t *testing.T) {
	for n, e := range map[int]api.Errno{1024: api.OK, 1025: api.ErrLimit} {
		p := sample.Raise(n)
		top := last(p)
		p.Ops = append(p.Ops, constant(0))
		low, own := top+1, top+2
		for _, c := range []struct {
			op api.Op
			e  api.Errno
		}{
			{step(api.OAdd, top, low), e}, {step(api.OAdd, low, top), e}, {step(api.OAdd, top, top), e}, {step(api.OAdd, 0, top), e},
			{step(api.OSub, top, low), e}, {step(api.OSub, low, top), e}, {step(api.OSub, top, top), e}, {step(api.OSub, 0, top), e},
			{step(api.OMul, top, low), e}, {step(api.OMul, low, top), e},
			{step(api.OMul, top, 0), api.ErrLimit}, {step(api.OMul, 0, top), api.ErrLimit}, {step(api.OMul, top, top), api.ErrLimit},
		} {
			q := api.Prog{Inputs: 1, Ops: append(slices.Clone(p.Ops), c.op), Outs: outs(0, own)}
			degree := map[api.Errno]int{api.OK: 1024}[c.e]
			wantOf(t, q, degree, c.e)
			wantDegrees(t, q)
			wantOf(t, withOuts(q, low, 0), 1, api.OK)
		}
	}
}

// Degrees that would leave any number of bits stay past the bound, whatever comes behind them.
func TestDegreesFarPastTheBound(t *testing.T) {
	for n := range 257 {
		p := sample.Squares(n)
		if n <= 10 {
			wantOf(t, p, 1<<n, api.OK)
		} else {
			wantOf(t, p, 0, api.ErrLimit)
			wantAll(t, p, nil, api.ErrLimit)
			wantOf(t, withOuts(p, 10, 3), 1024, api.OK)
			wantOf(t, withOuts(p, 10, 3, 11), 0, api.ErrLimit)
		}
		wantDegrees(t, p)
	}
	for n := 11; n < 255; n++ {
		for _, kind := range []api.OpKind{api.OAdd, api.OSub, api.OMul} {
			p := sample.Squares(n)
			p.Ops = append(p.Ops, constant(0), step(kind, n, n+1))
			wantOf(t, withOuts(p, n+2), 0, api.ErrLimit)
			wantOf(t, withOuts(p, n+1), 0, api.OK)
			wantAll(t, withOuts(p, n+1), nil, api.ErrLimit)
		}
	}
}

func TestDegreesOfMuch(t *testing.T) {
	// 256 times 64 inputs in turn: the degree rises by one a step.
	p := api.Prog{Inputs: 64}
	for i := range 256 {
		p.Ops = append(p.Ops, step(api.OMul, 63+i, i%64))
	}
	degrees := slices.Repeat(outs(1), 64)
	for i := range 256 {
		degrees = append(degrees, i+2)
	}
	wantAll(t, p, degrees, api.OK)
	wantOf(t, withOuts(p, slices.Repeat(outs(0, 319), 32)...), 257, api.OK)
	wantOf(t, withOuts(p, slices.Repeat(outs(0, 318), 32)...), 256, api.OK)
	// The last of 64 Outs alone is above.
	s := sample.Squares(256)
	wantOf(t, withOuts(s, append(slices.Repeat(outs(10), 63), 11)...), 0, api.ErrLimit)
	wantOf(t, withOuts(s, append(slices.Repeat(outs(10), 63), 256)...), 0, api.ErrLimit)
	wantOf(t, withOuts(s, slices.Repeat(outs(10), 64)...), 1024, api.OK)
}

// P10.2

func TestUsesAndTrim(t *testing.T) {
	for _, p := range progs() {
		wantHanging(t, p)
		// Each value alone, as all may come out.
		for v := 0; v <= last(p); v += 1 + last(p)/9 {
			wantHanging(t, withOuts(p, v))
			wantHanging(t, withOuts(p, last(p)-v, v))
		}
	}
}

// All programs of two steps with up to two inputs, but for what their constants are, and none, each one and each two of their values as Outs.
func TestUsesAndTrimOfTwoSteps(t *testing.T) {
	for inputs := range 3 {
		for _, first := range stepsBehind(inputs) {
			for _, second := range stepsBehind(inputs + 1) {
				p := api.Prog{Inputs: inputs, Ops: ops(first, second)}
				wantHanging(t, p)
				for a := range inputs + 2 {
					wantHanging(t, withOuts(p, a))
					for b := range inputs + 2 {
						wantHanging(t, withOuts(p, a, b))
						wantDegrees(t, withOuts(p, a, b))
					}
				}
			}
		}
	}
}

// stepsBehind are all steps of so many values, and a constant.
func stepsBehind(values int) []api.Op {
	l := ops(constant(3))
	for _, kind := range []api.OpKind{api.OAdd, api.OSub, api.OMul} {
		for a := range values {
			for b := range values {
				l = append(l, step(kind, a, b))
			}
		}
	}
	return l
}

func TestUsesByHand(t *testing.T) {
	wantUses(t, api.Prog{}, nil, api.OK)
	wantUses(t, api.Prog{Inputs: 64}, nil, api.OK)
	wantUses(t, api.Prog{Inputs: 64, Outs: sample.Inputs(64)}, sample.Inputs(64), api.OK)
	wantUses(t, api.Prog{Inputs: 64, Outs: outs(63, 0, 9, 0, 63)}, outs(0, 9, 63), api.OK)
	// Rising and once each, whatever the order in which they are come to.
	p := api.Prog{Inputs: 4, Ops: ops(step(api.OSub, 3, 1), step(api.OMul, 4, 3), step(api.OAdd, 1, 5), constant(7))}
	for _, c := range []struct{ outs, uses []int }{
		{nil, nil}, {outs(7), nil}, {outs(7, 7), nil}, {outs(7, 2), outs(2)},
		{outs(4), outs(1, 3)}, {outs(5), outs(1, 3)}, {outs(6), outs(1, 3)}, {outs(6, 0), outs(0, 1, 3)}, {outs(3, 6, 2, 3), outs(1, 2, 3)}, {outs(3), outs(3)}, {outs(0, 7), outs(0)},
	} {
		wantUses(t, withOuts(p, c.outs...), c.uses, api.OK)
	}
	// A constant's noughts are not the input 0.
	wantUses(t, api.Prog{Inputs: 2, Ops: ops(constant(5), step(api.OAdd, 2, 1)), Outs: outs(3)}, outs(1), api.OK)
	// A value that cannot change anything counts: what is less itself, what is 0 times another one.
	wantUses(t, api.Prog{Inputs: 2, Ops: ops(step(api.OSub, 0, 0), step(api.OMul, 2, 1)), Outs: outs(3)}, outs(0, 1), api.OK)
	// A step takes the same values as one that comes out, and hangs on them, but does not come out.
	wantUses(t, api.Prog{Inputs: 3, Ops: ops(step(api.OAdd, 0, 1), step(api.OAdd, 0, 2)), Outs: outs(3)}, outs(0, 1), api.OK)
}

func TestTrimByHand(t *testing.T) {
	wantTrim(t, api.Prog{}, api.Prog{}, api.OK)
	wantTrim(t, api.Prog{Inputs: 64, Outs: outs(63, 0, 0)}, api.Prog{Inputs: 64, Outs: outs(63, 0, 0)}, api.OK)
	p := api.Prog{Inputs: 2, Ops: ops(constant(5), step(api.OMul, 0, 1), step(api.OAdd, 3, 2), constant(6), step(api.OSub, 4, 0))}
	for _, c := range []struct {
		outs []int
		want api.Prog
	}{
		// None of the steps, all of them.
		{nil, api.Prog{Inputs: 2}},
		{outs(1, 0), api.Prog{Inputs: 2, Outs: outs(1, 0)}},
		{outs(6, 5), withOuts(p, 6, 5)},
		{outs(2, 3, 4, 5, 6), withOuts(p, 2, 3, 4, 5, 6)},
		// The first ones, the last ones, ones between.
		{outs(2), api.Prog{Inputs: 2, Ops: p.Ops[:1], Outs: outs(2)}},
		{outs(4, 1), api.Prog{Inputs: 2, Ops: p.Ops[:3], Outs: outs(4, 1)}},
		{outs(3, 3), api.Prog{Inputs: 2, Ops: p.Ops[1:2], Outs: outs(2, 2)}},
		{outs(5), api.Prog{Inputs: 2, Ops: p.Ops[3:4], Outs: outs(2)}},
		{outs(5, 0, 3), api.Prog{Inputs: 2, Ops: ops(p.Ops[1], p.Ops[3]), Outs: outs(3, 0, 2)}},
		// All but a constant between.
		{outs(6), api.Prog{Inputs: 2, Ops: ops(p.Ops[0], p.Ops[1], p.Ops[2], step(api.OSub, 4, 0)), Outs: outs(5)}},
	} {
		wantTrim(t, withOuts(p, c.outs...), c.want, api.OK)
	}
	// Without inputs a step's place is its value's number, also where the first one goes.
	consts := api.Prog{Ops: ops(constant(1), constant(2), constant(3), step(api.OSub, 2, 1)), Outs: outs(3)}
	wantTrim(t, consts, api.Prog{Ops: ops(constant(2), constant(3), step(api.OSub, 1, 0)), Outs: outs(2)}, api.OK)
	// Like steps stay, each at its own place.
	like := api.Prog{Inputs: 1, Ops: ops(step(api.OMul, 0, 0), step(api.OMul, 0, 0), step(api.OMul, 0, 0)), Outs: outs(3, 2)}
	wantTrim(t, like, api.Prog{Inputs: 1, Ops: like.Ops[:2], Outs: outs(2, 1)}, api.OK)
}

func TestTrimOfMuch(t *testing.T) {
	for _, inputs := range []int{0, 1, 64} {
		p := api.Prog{Inputs: inputs}
		for i := range 256 {
			p.Ops = append(p.Ops, constant(uint64(i)))
		}
		wantTrim(t, p, api.Prog{Inputs: inputs}, api.OK)
		// Every fourth one comes out, from the last one on.
		trimmed := api.Prog{Inputs: inputs}
		for i := range 64 {
			p.Outs = append(p.Outs, inputs+255-4*i)
			trimmed.Ops = append(trimmed.Ops, constant(uint64(4*i+3)))
			trimmed.Outs = append(trimmed.Outs, inputs+63-i)
		}
		wantTrim(t, p, trimmed, api.OK)
		wantUses(t, p, nil, api.OK)
	}
	for n := range 257 {
		wantTrim(t, withOuts(sample.Squares(256), slices.Repeat(outs(n), 64)...), withOuts(sample.Squares(n), slices.Repeat(outs(n), 64)...), api.OK)
		wantUses(t, withOuts(sample.Squares(256), n), outs(0), api.OK)
	}
}

// The examples of the chapter.

func TestExamples(t *testing.T) {
	p := api.Prog{Inputs: 1, Ops: ops(step(api.OMul, 0, 0), constant(5), step(api.OSub, 1, 2))}
	wantAll(t, p, outs(1, 2, 0, 2), api.OK)
	wantOf(t, withOuts(p, 3), 2, api.OK)
	wantOf(t, sample.Squares(11), 0, api.ErrLimit)
	wantOf(t, api.Prog{}, 0, api.OK)
	wantUses(t, api.Prog{Inputs: 3, Ops: ops(step(api.OAdd, 2, 2)), Outs: outs(3)}, outs(2), api.OK)
	wantTrim(t, api.Prog{Inputs: 1, Ops: ops(constant(7), step(api.OMul, 0, 0)), Outs: outs(2)}, api.Prog{Inputs: 1, Ops: ops(step(api.OMul, 0, 0)), Outs: outs(1)}, api.OK)
}
