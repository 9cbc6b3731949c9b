package sample

import (
	"math"
	"math/bits"
	"slices"

	"conclave/api"
)

// Prog is a program without any order, the same one each time, another one for each number from. It has no Outs, if it has no values.
func Prog(from, inputs, steps, outs int) api.Prog {
	draws := Scattered(api.Large, from+4*steps+outs)[from:]
	p := api.Prog{Inputs: inputs}
	for i := range steps {
		p.Ops = append(p.Ops, step(draws[4*i:], inputs+i))
	}
	if values := inputs + steps; values > 0 {
		for _, a := range draws[4*steps:] {
			p.Outs = append(p.Outs, int(a%uint64(values)))
		}
	}
	return p
}

// step is one of four draws, ahead of which there are so many values.
func step(draws []uint64, values int) api.Op {
	kinds := []api.OpKind{api.OAdd, api.OSub, api.OMul, api.OConst}
	kind := kinds[draws[0]>>20%4]
	if kind == api.OConst || values == 0 {
		return api.Op{Kind: api.OConst, C: draws[3] >> (draws[1] % 64)}
	}
	return api.Op{Kind: kind, A: int(draws[1] % uint64(values)), B: int(draws[2] % uint64(values))}
}

// Steep is Prog with each step made of some of the last few values ahead of it, and products in the place of most constants, so that many steps hang on one another and degrees grow high.
func Steep(from, inputs, steps, outs int) api.Prog {
	p := Prog(from, inputs, steps, outs)
	for i, op := range p.Ops {
		values := inputs + i
		switch {
		case op.Kind != api.OConst:
			p.Ops[i].A, p.Ops[i].B = values-1-op.A%min(values, 4), values-1-op.B%min(values, 4)
		case i%4 > 0:
			p.Ops[i] = api.Op{Kind: api.OMul, A: values - 1 - i%min(values, 3), B: values - 1}
		}
	}
	return p
}

// Squares has one input, and so many times the value ahead times itself; it has the last one come out.
func Squares(n int) api.Prog {
	p := api.Prog{Inputs: 1, Outs: []int{n}}
	for i := range n {
		p.Ops = append(p.Ops, api.Op{Kind: api.OMul, A: i, B: i})
	}
	return p
}

// Raise has one input and its power n, at least 1, come out: the bits of n below the highest one say where the input is put to a square.
func Raise(n int) api.Prog {
	p := api.Prog{Inputs: 1}
	for bit := bits.Len(uint(n)) - 2; bit >= 0; bit-- {
		p.Ops = append(p.Ops, api.Op{Kind: api.OMul, A: len(p.Ops), B: len(p.Ops)})
		if n>>bit&1 == 1 {
			p.Ops = append(p.Ops, api.Op{Kind: api.OMul, A: len(p.Ops), B: 0})
		}
	}
	p.Outs = []int{len(p.Ops)}
	return p
}

// Inputs are the numbers of so many inputs, in order.
func Inputs(n int) []int {
	l := make([]int, n)
	for i := range l {
		l[i] = i
	}
	return l
}

// Progs are programs that may be: with nothing, few and as much as there may be of inputs, steps and Outs.
func Progs() []api.Prog {
	l := []api.Prog{
		{},
		{Ops: []api.Op{}, Outs: []int{}},
		{Inputs: 1},
		{Inputs: 1, Outs: []int{0}},
		{Inputs: 64, Outs: Inputs(64)},
		{Inputs: 3, Outs: []int{2, 2, 0}},
		{Ops: []api.Op{{Kind: api.OConst}}},
		{Ops: []api.Op{{Kind: api.OConst, C: math.MaxUint64}}, Outs: []int{0}},
		{Ops: []api.Op{{Kind: api.OConst, C: 10}, {Kind: api.OSub, A: 0, B: 0}}, Outs: slices.Repeat([]int{1}, 64)},
		{Inputs: 1, Ops: []api.Op{{Kind: api.OMul}}, Outs: []int{1}},
		{Inputs: 2, Ops: []api.Op{{Kind: api.OMul, A: 0, B: 1}, {Kind: api.OAdd, A: 2, B: 0}, {Kind: api.OConst, C: 5}}, Outs: []int{3}},
		{Inputs: 2, Ops: []api.Op{{Kind: api.OSub, A: 1, B: 0}, {Kind: api.OSub, A: 0, B: 2}}, Outs: []int{3, 0, 2, 1}},
		{Inputs: 12, Ops: []api.Op{{Kind: api.OMul, A: 10, B: 11}, {Kind: api.OConst, C: 1 << 63}}, Outs: []int{13, 12, 11, 10, 9}},
	}
	for i := range 12 {
		l = append(l, Prog(20*i, i%5, i, 1+i%4))
	}
	return append(l, Prog(3, 64, 256, 64), Prog(5, 0, 256, 1), Prog(7, 1, 255, 0), Prog(9, 63, 1, 63))
}

// withStep is p with another step at the place i.
func withStep(p api.Prog, i int, op api.Op) api.Prog {
	p.Ops = slices.Clone(p.Ops)
	p.Ops[i] = op
	return p
}

func withOut(p api.Prog, i, out int) api.Prog {
	p.Outs = slices.Clone(p.Outs)
	p.Outs[i] = out
	return p
}

// noSteps are steps of which none may be, ahead of which there are so many values, at least two.
func noSteps(values int) []api.Op {
	var l []api.Op
	for _, kind := range []api.OpKind{api.OAdd, api.OSub, api.OMul} {
		for _, v := range []int{-1, math.MinInt, values, values + 1, values + 1000, math.MaxInt} {
			l = append(l, api.Op{Kind: kind, A: v, B: 1}, api.Op{Kind: kind, A: 1, B: v}, api.Op{Kind: kind, A: v, B: v})
		}
		l = append(l, api.Op{Kind: kind, C: 1}, api.Op{Kind: kind, A: 1, B: 1, C: math.MaxUint64})
	}
	for _, v := range []int{1, -1, values, math.MinInt, math.MaxInt} {
		l = append(l, api.Op{Kind: api.OConst, A: v}, api.Op{Kind: api.OConst, B: v, C: 3})
	}
	for _, kind := range []api.OpKind{api.NoOp, 5, 6, 255} {
		l = append(l, api.Op{Kind: kind}, api.Op{Kind: kind, A: 1, B: 1}, api.Op{Kind: kind, C: 1})
	}
	return l
}

// NoProgs are programs that may not be, each with one fault alone.
func NoProgs() []api.Prog {
	var l []api.Prog
	for _, n := range []int{-1, -64, math.MinInt, 65, 66, 128, math.MaxInt} {
		l = append(l, api.Prog{Inputs: n})
	}
	good := Prog(11, 2, 6, 5)
	for i := range good.Ops {
		for _, op := range noSteps(good.Inputs + i) {
			l = append(l, withStep(good, i, op))
		}
	}
	for i := range good.Outs {
		for _, out := range []int{-1, math.MinInt, 8, 9, 1000, math.MaxInt} {
			l = append(l, withOut(good, i, out))
		}
	}
	return append(l,
		Prog(1, 2, 257, 1), Prog(1, 0, 300, 0), Prog(1, 2, 3, 65), Prog(1, 64, 0, 128),
		api.Prog{Outs: []int{0}}, api.Prog{Inputs: 64, Outs: []int{64}},
		api.Prog{Ops: []api.Op{{Kind: api.OAdd}}}, api.Prog{Ops: []api.Op{{}}},
	)
}
