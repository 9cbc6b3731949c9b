package eval

// P11.1 to P11.3: what each call answers, and the chapter's examples.

import (
	"fmt"
	"math"
	"math/bits"
	"slices"
	"testing"

	"conclave/api"
	"conclave/degree"
	"conclave/sample"
)

// By the words of the chapter, the fields by whole divisions.

func restBy(f api.Field, high, low uint64) uint64 {
	prime := sample.Prime(f)
	_, rest := bits.Div64(high%prime, low, prime)
	return rest
}

func sumBy(f api.Field, a, b uint64) uint64 {
	low, carry := bits.Add64(a, b, 0)
	return restBy(f, carry, low)
}

func minusBy(f api.Field, a uint64) uint64 { return restBy(f, 0, sample.Prime(f)-a) }

func productBy(f api.Field, a, b uint64) uint64 {
	high, low := bits.Mul64(a, b)
	return restBy(f, high, low)
}

func valuesBy(f api.Field, p api.Prog, in []uint64) []uint64 {
	all := slices.Clone(in)
	for _, op := range p.Ops {
		switch op.Kind {
		case api.OAdd:
			all = append(all, sumBy(f, all[op.A], all[op.B]))
		case api.OSub:
			all = append(all, sumBy(f, all[op.A], minusBy(f, all[op.B])))
		case api.OMul:
			all = append(all, productBy(f, all[op.A], all[op.B]))
		case api.OConst:
			all = append(all, restBy(f, 0, op.C))
		}
	}
	return all
}

func runBy(f api.Field, p api.Prog, in []uint64) []uint64 {
	all := valuesBy(f, p, in)
	var l []uint64
	for _, out := range p.Outs {
		l = append(l, all[out])
	}
	return l
}

func degreeBy(p []uint64) int {
	top := -1
	for i, a := range p {
		if a != 0 {
			top = i
		}
	}
	return top
}

func polySumBy(f api.Field, p, q []uint64) []uint64 {
	l := sample.Padded(p, max(len(p), len(q)))
	for i, a := range q {
		l[i] = sumBy(f, l[i], a)
	}
	return l
}

func polyMinusBy(f api.Field, p []uint64) []uint64 {
	var l []uint64
	for _, a := range p {
		l = append(l, minusBy(f, a))
	}
	return l
}

// polyProductBy leaves out what is 0 times another one, since lists at the limits may have little else.
func polyProductBy(f api.Field, p, q []uint64) []uint64 {
	l := make([]uint64, len(p)+len(q))
	for i, a := range p {
		for j, b := range q {
			if a != 0 && b != 0 {
				l[i+j] = sumBy(f, l[i+j], productBy(f, a, b))
			}
		}
	}
	return l
}

// composedBy finds the polynomial of one value, from it on down; what was found is kept.
func composedBy(f api.Field, p api.Prog, in [][]uint64, v int, found map[int][]uint64) []uint64 {
	if l, ok := found[v]; ok {
		return l
	}
	of := func(v int) []uint64 { return composedBy(f, p, in, v, found) }
	var l []uint64
	if v < p.Inputs {
		l = in[v]
	} else {
		switch op := p.Ops[v-p.Inputs]; op.Kind {
		case api.OAdd:
			l = polySumBy(f, of(op.A), of(op.B))
		case api.OSub:
			l = polySumBy(f, of(op.A), polyMinusBy(f, of(op.B)))
		case api.OMul:
			l = polyProductBy(f, of(op.A), of(op.B))
		case api.OConst:
			l = []uint64{restBy(f, 0, op.C)}
		}
	}
	found[v] = l[:degreeBy(l)+1]
	return found[v]
}

func composeBy(f api.Field, p api.Prog, in [][]uint64) [][]uint64 {
	found := map[int][]uint64{}
	var l [][]uint64
	for _, out := range p.Outs {
		l = append(l, composedBy(f, p, in, out, found))
	}
	return l
}

// tooHighBy is whether a program's degree, and that of what is handed in, are past the limits.
func tooHighBy(p api.Prog, in [][]uint64) bool {
	greatest := 0
	for _, l := range in {
		greatest = max(greatest, degreeBy(l))
	}
	n, e := degree.Of(p)
	return e != api.OK || n*greatest > 4095
}

func same(a, b [][]uint64) bool { return slices.EqualFunc(a, b, slices.Equal[[]uint64]) }

func brief(a any) string { return fmt.Sprintf("%.300s", fmt.Sprint(a)) }

func briefs(lists [][]uint64) string {
	s := fmt.Sprint(len(lists), ": ")
	for _, l := range lists[:min(len(lists), 6)] {
		s += sample.Brief(l)
	}
	return s
}

func wantRun(t *testing.T, f api.Field, p api.Prog, in, answer []uint64, e api.Errno) {
	t.Helper()
	if l, got := Run(f, p, in); !slices.Equal(l, answer) || got != e {
		t.Errorf("Run(%d, %s, %s) = %s, %d, not %s, %d", f, brief(p), sample.Brief(in), sample.Brief(l), got, sample.Brief(answer), e)
	}
}

func wantSteps(t *testing.T, f api.Field, p api.Prog, in, answer []uint64, e api.Errno) {
	t.Helper()
	if l, got := Steps(f, p, in); !slices.Equal(l, answer) || got != e {
		t.Errorf("Steps(%d, %s, %s) = %s, %d, not %s, %d", f, brief(p), sample.Brief(in), sample.Brief(l), got, sample.Brief(answer), e)
	}
}

func wantMany(t *testing.T, f api.Field, p api.Prog, rows, answer [][]uint64, e api.Errno) {
	t.Helper()
	if l, got := Many(f, p, rows...); !same(l, answer) || got != e {
		t.Errorf("Many(%d, %s, %s) = %s, %d, not %s, %d", f, brief(p), briefs(rows), briefs(l), got, briefs(answer), e)
	}
}

func wantCompose(t *testing.T, f api.Field, p api.Prog, in, answer [][]uint64, e api.Errno) {
	t.Helper()
	if l, got := Compose(f, p, in); !same(l, answer) || got != e {
		t.Errorf("Compose(%d, %s, %s) = %s, %d, not %s, %d", f, brief(p), briefs(in), briefs(l), got, briefs(answer), e)
	}
}

// wantValues holds Run and Steps against the words, and Many of one row.
func wantValues(t *testing.T, f api.Field, p api.Prog, in []uint64) {
	t.Helper()
	wantSteps(t, f, p, in, valuesBy(f, p, in), api.OK)
	wantRun(t, f, p, in, runBy(f, p, in), api.OK)
	wantMany(t, f, p, lists(in), lists(runBy(f, p, in)), api.OK)
}

// wantComposed holds Compose against the words, and tells whether it was within the limits.
func wantComposed(t *testing.T, f api.Field, p api.Prog, in [][]uint64) bool {
	t.Helper()
	if tooHighBy(p, in) {
		wantCompose(t, f, p, in, nil, api.ErrLimit)
		return false
	}
	wantCompose(t, f, p, in, composeBy(f, p, in), api.OK)
	return true
}

func constant(c uint64) api.Op { return api.Op{Kind: api.OConst, C: c} }

func step(kind api.OpKind, a, b int) api.Op { return api.Op{Kind: kind, A: a, B: b} }

func ops(l ...api.Op) []api.Op { return l }

func outs(l ...int) []int { return l }

func l(a ...uint64) []uint64 { return a }

func lists(a ...[]uint64) [][]uint64 { return a }

// withOuts is p with other Outs.
func withOuts(p api.Prog, l ...int) api.Prog {
	p.Outs = l
	return p
}

// square is x0 * x0.
func square() api.Prog { return api.Prog{Inputs: 1, Ops: ops(step(api.OMul, 0, 0)), Outs: outs(1)} }

// squareAndFive is x0 * x0 + 5.
func squareAndFive() api.Prog {
	return api.Prog{Inputs: 1, Ops: ops(step(api.OMul, 0, 0), constant(5), step(api.OAdd, 1, 2)), Outs: outs(3)}
}

// progs are many programs that may be, low ones and steep ones.
func progs() []api.Prog {
	all := append(sample.Progs(), square(), squareAndFive(), sample.Squares(256), sample.Raise(1024), sample.Raise(1025), sample.Steep(1, 64, 256, 64), sample.Steep(2, 0, 256, 64), sample.Steep(4, 1, 256, 64))
	for from := range 60 {
		all = append(all, sample.Prog(from, from*5%65, from%31, from*3%65), sample.Prog(from, from%3, from*11%257, from%5))
		all = append(all, sample.Steep(from, from%7, from%41, from%4), sample.Steep(from, 1+from%2, from*7%150, 1+from%9))
	}
	return all
}

// polysFor are so many polynomials, other ones for each number from, of no more elements than most.
func polysFor(f api.Field, from, n, most int) [][]uint64 {
	var in [][]uint64
	for i := range n {
		in = append(in, sample.Run(f, from+i, (from+3*i)%(most+1)))
	}
	return in
}

// P11.1

func TestValues(t *testing.T) {
	for _, f := range sample.Fields() {
		for i, p := range progs() {
			wantValues(t, f, p, sample.Run(f, i, p.Inputs))
			wantValues(t, f, p, make([]uint64, p.Inputs))
			wantValues(t, f, p, slices.Repeat(l(sample.Prime(f)-1), p.Inputs))
		}
	}
}

// A step of each kind of each two elements, among them those that wrap, and the greatest ones.
func TestOneStep(t *testing.T) {
	for _, f := range sample.Fields() {
		for _, a := range sample.Elements(f) {
			for _, b := range sample.Elements(f) {
				for _, op := range ops(step(api.OAdd, 0, 1), step(api.OSub, 0, 1), step(api.OSub, 1, 0), step(api.OMul, 0, 1), step(api.OMul, 1, 1), step(api.OAdd, 0, 0), step(api.OSub, 1, 1)) {
					p := api.Prog{Inputs: 2, Ops: ops(op), Outs: outs(2)}
					wantSteps(t, f, p, l(a, b), valuesBy(f, p, l(a, b)), api.OK)
					wantRun(t, f, p, l(a, b), runBy(f, p, l(a, b)), api.OK)
				}
			}
		}
	}
}

func TestStepsThatWrap(t *testing.T) {
	for _, f := range sample.Fields() {
		top := sample.Prime(f) - 1
		p := api.Prog{Inputs: 2, Ops: ops(step(api.OAdd, 0, 1), step(api.OSub, 1, 0), step(api.OSub, 0, 1), step(api.OMul, 0, 0), step(api.OMul, 0, 1), step(api.OAdd, 0, 0), step(api.OSub, 0, 0)), Outs: outs(8, 2)}
		wantSteps(t, f, p, l(top, 1), l(top, 1, 0, 2, top-1, 1, top, top-1, 0), api.OK)
		wantSteps(t, f, p, l(top, 2), l(top, 2, 1, 3, top-2, 1, top-1, top-1, 0), api.OK)
		wantSteps(t, f, p, l(top, top), l(top, top, top-1, 0, 0, 1, 1, top-1, 0), api.OK)
		wantSteps(t, f, p, l(0, top), l(0, top, top, top, 1, 0, 0, 0, 0), api.OK)
		wantRun(t, f, p, l(top, 2), l(0, 1), api.OK)
	}
}

// Any word is a number C; it counts as its rest.
func TestConstants(t *testing.T) {
	for _, f := range sample.Fields() {
		prime := sample.Prime(f)
		words := slices.Concat(sample.Elements(f), sample.Elements(api.Large), sample.Outside(api.Large), sample.Outside(f), l(prime-1, prime, prime+1, math.MaxUint64-1, math.MaxUint64))
		for times := uint64(1); times <= math.MaxUint64/prime && times < 1000; times++ {
			words = append(words, times*prime-1, times*prime, times*prime+1)
		}
		for _, c := range words {
			rest := c % prime
			p := api.Prog{Ops: ops(constant(c)), Outs: outs(0, 0)}
			wantSteps(t, f, p, nil, l(rest), api.OK)
			wantRun(t, f, p, nil, l(rest, rest), api.OK)
			// In the midst of others, with inputs that have nothing to do with it.
			p = api.Prog{Inputs: 1, Ops: ops(constant(c), step(api.OAdd, 0, 1), step(api.OMul, 1, 1)), Outs: outs(1)}
			wantSteps(t, f, p, l(3), l(3, rest, sumBy(f, 3, rest), productBy(f, rest, rest)), api.OK)
			// As a polynomial too, which has no elements where the rest is 0.
			wantCompose(t, f, p, lists(l(3, 1)), lists(trimmedBy(l(rest))), api.OK)
		}
	}
	greatest := api.Prog{Ops: ops(constant(math.MaxUint64)), Outs: outs(0)}
	wantRun(t, api.Large, greatest, nil, l(4294967294), api.OK)
	wantRun(t, api.Small, greatest, nil, l(math.MaxUint64%2013265921), api.OK)
	wantRun(t, api.Large, api.Prog{Ops: ops(constant(2013265921)), Outs: outs(0)}, nil, l(2013265921), api.OK)
}

func trimmedBy(p []uint64) []uint64 { return p[:degreeBy(p)+1] }

func TestValuesOfLittle(t *testing.T) {
	for _, f := range sample.Fields() {
		wantSteps(t, f, api.Prog{}, nil, nil, api.OK)
		wantRun(t, f, api.Prog{}, nil, nil, api.OK)
		wantSteps(t, f, api.Prog{Inputs: 2}, l(7, 8), l(7, 8), api.OK)
		wantRun(t, f, api.Prog{Inputs: 2}, l(7, 8), nil, api.OK)
		wantRun(t, f, api.Prog{Inputs: 2, Outs: outs(1, 0, 1)}, l(7, 8), l(8, 7, 8), api.OK)
		wantRun(t, f, api.Prog{Inputs: 1, Outs: outs(0)}, l(0), l(0), api.OK)
		// Constants alone.
		consts := api.Prog{Ops: ops(constant(7), constant(3), step(api.OMul, 0, 1), step(api.OSub, 2, 0), step(api.OAdd, 3, 3)), Outs: outs(4, 0)}
		wantSteps(t, f, consts, nil, l(7, 3, 21, 14, 28), api.OK)
		wantRun(t, f, consts, nil, l(28, 7), api.OK)
		wantRun(t, f, withOuts(consts), nil, nil, api.OK)
		// The order of what is taken away.
		minus := api.Prog{Inputs: 2, Ops: ops(step(api.OSub, 0, 1), step(api.OSub, 1, 2)), Outs: outs(3, 2)}
		wantRun(t, f, minus, l(9, 4), l(sample.Prime(f)-1, 5), api.OK)
	}
}

// Each value of a program comes out, alone, twice, with the last and the first one.
func TestWhatComesOut(t *testing.T) {
	for _, f := range sample.Fields() {
		for _, p := range []api.Prog{sample.Prog(4, 3, 20, 0), sample.Steep(6, 2, 30, 0), sample.Prog(2, 64, 256, 0)} {
			in := sample.Run(f, 5, p.Inputs)
			all := valuesBy(f, p, in)
			last := len(all) - 1
			for v, a := range all {
				wantRun(t, f, withOuts(p, v), in, l(a), api.OK)
				wantRun(t, f, withOuts(p, v, last, v, 0), in, l(a, all[last], a, all[0]), api.OK)
				wantSteps(t, f, withOuts(p, v), in, all, api.OK)
			}
		}
	}
}

// As much as there may be of all; nothing of it has to come out.
func TestValuesOfMuch(t *testing.T) {
	for _, f := range sample.Fields() {
		p := api.Prog{Inputs: 64}
		for i := range 256 {
			p.Ops = append(p.Ops, step(api.OAdd, 63+i, i%64))
		}
		in, all := make([]uint64, 64), []uint64{}
		for i := range in {
			in[i] = uint64(i + 1)
		}
		all = append(all, in...)
		for i := range 256 {
			all = append(all, all[63+i]+uint64(i%64+1))
		}
		wantSteps(t, f, p, in, all, api.OK)
		wantRun(t, f, p, in, nil, api.OK)
		wantRun(t, f, withOuts(p, slices.Repeat(outs(319, 0), 32)...), in, slices.Repeat(l(8384, 1), 32), api.OK)
		// A degree that leaves any number of bits is none of elements' concern.
		wantRun(t, f, sample.Squares(256), l(1), l(1), api.OK)
		wantRun(t, f, sample.Squares(256), l(sample.Prime(f)-1), l(1), api.OK)
		wantValues(t, f, sample.Squares(256), l(3))
		wantRun(t, f, sample.Raise(1025), l(2), runBy(f, sample.Raise(1025), l(2)), api.OK)
	}
}

// P11.2

func TestMany(t *testing.T) {
	for _, f := range sample.Fields() {
		for i, p := range progs() {
			var rows, answers [][]uint64
			for j := range i % 9 {
				rows = append(rows, sample.Run(f, i+7*j, p.Inputs))
				answers = append(answers, runBy(f, p, rows[j]))
			}
			wantMany(t, f, p, rows, answers, api.OK)
		}
	}
}

func TestManyByHand(t *testing.T) {
	for _, f := range sample.Fields() {
		top := sample.Prime(f) - 1
		wantMany(t, f, square(), nil, nil, api.OK)
		wantMany(t, f, square(), lists(), nil, api.OK)
		wantMany(t, f, square(), lists(l(2)), lists(l(4)), api.OK)
		wantMany(t, f, square(), lists(l(3), l(0), l(top), l(3)), lists(l(9), l(0), l(1), l(9)), api.OK)
		// A row may be empty, where there are no inputs, and so may what comes out.
		wantMany(t, f, api.Prog{}, lists(nil, nil), lists(nil, nil), api.OK)
		wantMany(t, f, api.Prog{}, lists(nil, l(), nil), lists(nil, nil, nil), api.OK)
		wantMany(t, f, api.Prog{Inputs: 2}, lists(l(1, 2), l(3, 4)), lists(nil, nil), api.OK)
		wantMany(t, f, api.Prog{Ops: ops(constant(top)), Outs: outs(0, 0)}, lists(nil, nil), lists(l(top, top), l(top, top)), api.OK)
		wantMany(t, f, api.Prog{Inputs: 2, Outs: outs(1, 0)}, lists(l(1, 2), l(3, 4)), lists(l(2, 1), l(4, 3)), api.OK)
	}
}

func TestManyAtItsLimit(t *testing.T) {
	full := sample.Prog(3, 64, 256, 64)
	for _, f := range sample.Fields() {
		for _, p := range []api.Prog{{}, square(), squareAndFive(), full} {
			row := func(i int) []uint64 { return sample.Run(f, i%7, p.Inputs) }
			var seven, rows, answers [][]uint64
			for i := range 7 {
				seven = append(seven, runBy(f, p, row(i)))
			}
			for i := range 4096 {
				rows, answers = append(rows, row(i)), append(answers, seven[i%7])
			}
			wantMany(t, f, p, rows[:4095], answers[:4095], api.OK)
			wantMany(t, f, p, rows, answers, api.OK)
			wantMany(t, f, p, append(rows, row(0)), nil, api.ErrLimit)
			wantMany(t, f, p, append(rows, rows...), nil, api.ErrLimit)
		}
	}
}

// P11.3

func TestCompose(t *testing.T) {
	for _, f := range sample.Fields() {
		told := map[bool]int{}
		for i, p := range progs() {
			told[wantComposed(t, f, p, polysFor(f, i, p.Inputs, 4))]++
			told[wantComposed(t, f, p, polysFor(f, i, p.Inputs, 1))]++
			told[wantComposed(t, f, p, polysFor(f, i, p.Inputs, 0))]++
		}
		if told[true] < 500 || told[false] < 50 {
			t.Errorf("field %d: %v", f, told)
		}
	}
}

// A step of each kind, of each two polynomials.
func TestComposeOfOneStep(t *testing.T) {
	for _, f := range sample.Fields() {
		for _, a := range sample.Polys(f) {
			for _, b := range sample.Polys(f) {
				for _, kind := range []api.OpKind{api.OAdd, api.OSub, api.OMul} {
					p := api.Prog{Inputs: 2, Ops: ops(step(kind, 0, 1), step(kind, 0, 0)), Outs: outs(2, 3, 0, 1)}
					wantComposed(t, f, p, lists(a, b))
				}
			}
		}
	}
}

func TestComposeByHand(t *testing.T) {
	for _, f := range sample.Fields() {
		top := sample.Prime(f) - 1
		// No polynomials; empty ones, which are 0; ones with noughts at their ends.
		wantCompose(t, f, api.Prog{}, nil, nil, api.OK)
		wantCompose(t, f, api.Prog{}, lists(), nil, api.OK)
		wantCompose(t, f, api.Prog{Inputs: 2}, lists(l(1), l(2, 3)), nil, api.OK)
		wantCompose(t, f, squareAndFive(), lists(nil), lists(l(5)), api.OK)
		wantCompose(t, f, squareAndFive(), lists(l()), lists(l(5)), api.OK)
		wantCompose(t, f, squareAndFive(), lists(l(0, 0)), lists(l(5)), api.OK)
		wantCompose(t, f, squareAndFive(), lists(l(0, 1, 0, 0)), lists(l(5, 0, 1)), api.OK)
		wantCompose(t, f, square(), lists(l(0, 0, 0)), lists(nil), api.OK)
		wantCompose(t, f, square(), lists(l(top, top, 0)), lists(l(1, 2, 1)), api.OK)
		// What comes out is trimmed, an input too.
		same := api.Prog{Inputs: 2, Outs: outs(1, 0, 1, 0)}
		wantCompose(t, f, same, lists(l(1, 0, 2, 0), l(0, 0)), lists(nil, l(1, 0, 2), nil, l(1, 0, 2)), api.OK)
		// Differences that are 0, or shorter, and sums that are.
		less := api.Prog{Inputs: 2, Ops: ops(step(api.OSub, 0, 0), step(api.OSub, 0, 1), step(api.OAdd, 0, 1)), Outs: outs(2, 3, 4)}
		wantCompose(t, f, less, lists(l(1, 2, 3), l(1, 0, 3)), lists(nil, l(0, 2), l(2, 2, 6)), api.OK)
		wantCompose(t, f, less, lists(l(1, 2, 3), l(0, top-1, top-2)), lists(nil, l(1, 4, 6), l(1)), api.OK)
		// A constant whose rest is 0, alone and as a factor.
		nought := api.Prog{Inputs: 1, Ops: ops(constant(sample.Prime(f)), step(api.OMul, 0, 1), step(api.OAdd, 0, 1)), Outs: outs(1, 2, 3)}
		wantCompose(t, f, nought, lists(l(4, 5)), lists(nil, nil, l(4, 5)), api.OK)
		wantCompose(t, f, withOuts(nought, 1), lists(l(4, 5)), lists(nil), api.OK)
	}
}

// binomial is 1 + x to the power n, by Pascal's triangle.
func binomial(f api.Field, n int) []uint64 {
	row := l(1)
	for range n {
		row = polySumBy(f, append(row, 0), append(l(0), row...))
	}
	return row
}

func TestComposeOfPowers(t *testing.T) {
	for _, f := range sample.Fields() {
		for _, n := range []int{1, 2, 3, 10, 31, 32, 100, 1023, 1024} {
			wantCompose(t, f, sample.Raise(n), lists(l(1, 1)), lists(binomial(f, n)), api.OK)
			wantCompose(t, f, sample.Raise(n), lists(l(1, 1, 0)), lists(binomial(f, n)), api.OK)
		}
	}
}

// Degree times degree is at most 4095.
func TestComposeAtItsLimit(t *testing.T) {
	for _, f := range sample.Fields() {
		for _, n := range []int{1, 2, 3, 4, 5, 7, 9, 63, 64, 65, 585, 819, 1023, 1024} {
			p := sample.Raise(n)
			most := 4095 / n
			wantCompose(t, f, p, lists(sample.Power(most)), lists(sample.Power(n*most)), api.OK)
			wantCompose(t, f, p, lists(sample.Padded(sample.Power(most), 4096)), lists(sample.Power(n*most)), api.OK)
			if n > 1 {
				// With 2, 4, 64 and 1024 it is just 4096, with the others more.
				wantCompose(t, f, p, lists(sample.Power(most+1)), nil, api.ErrLimit)
				wantCompose(t, f, p, lists(sample.Power(4095)), nil, api.ErrLimit)
			}
			wantCompose(t, f, p, lists(sample.Power(4096)), nil, api.ErrLimit)
		}
		// What the program asks for counts, not what comes out of it: 0, and of all of in, also what is not used.
		nought := api.Prog{Inputs: 2, Ops: ops(step(api.OMul, 0, 0), step(api.OSub, 2, 2)), Outs: outs(3)}
		wantCompose(t, f, nought, lists(sample.Power(2047), nil), lists(nil), api.OK)
		wantCompose(t, f, nought, lists(sample.Power(2048), nil), nil, api.ErrLimit)
		wantCompose(t, f, nought, lists(nil, sample.Power(2047)), lists(nil), api.OK)
		wantCompose(t, f, nought, lists(nil, sample.Power(2048)), nil, api.ErrLimit)
		wantCompose(t, f, nought, lists(l(1), sample.Padded(sample.Power(2048), 4096)), nil, api.ErrLimit)
		// A program of the degree 0 has no limit but that of its lists, and neither has one of 1.
		wantCompose(t, f, api.Prog{Inputs: 1}, lists(sample.Power(4095)), nil, api.OK)
		wantCompose(t, f, api.Prog{Inputs: 1, Ops: ops(constant(6)), Outs: outs(1)}, lists(sample.Run(f, 1, 4096)), lists(l(6)), api.OK)
		wantCompose(t, f, api.Prog{Inputs: 1, Outs: outs(0)}, lists(sample.Run(f, 1, 4096)), lists(sample.Run(f, 1, 4096)), api.OK)
		sum := api.Prog{Inputs: 2, Ops: ops(step(api.OAdd, 0, 1), step(api.OSub, 2, 0), constant(1), step(api.OMul, 3, 4)), Outs: outs(5)}
		wantCompose(t, f, sum, lists(sample.Run(f, 1, 4096), sample.Run(f, 2, 4096)), lists(sample.Run(f, 2, 4096)), api.OK)
		// Products of full lists, as long as they may be.
		wantComposed(t, f, square(), lists(sample.Run(f, 3, 2048)))
		wantComposed(t, f, sample.Raise(3), lists(sample.Run(f, 3, 1366)))
	}
}

// Where no polynomial is above a single element, any program's degree is within the limit.
func TestComposeOfSingleElements(t *testing.T) {
	for _, f := range sample.Fields() {
		for _, in := range lists(nil, l(0), l(1), l(3), l(sample.Prime(f)-1), sample.Padded(l(3), 4096), make([]uint64, 4096)) {
			for _, n := range []int{1, 2, 1023, 1024} {
				p := sample.Raise(n)
				wantCompose(t, f, p, lists(in), lists(trimmedBy(runBy(f, p, sample.Padded(trimmedBy(in), 1)))), api.OK)
			}
			// But for what degree.Of says of it.
			wantCompose(t, f, sample.Raise(1025), lists(in), nil, api.ErrLimit)
			wantCompose(t, f, sample.Squares(11), lists(in), nil, api.ErrLimit)
			wantCompose(t, f, sample.Squares(256), lists(in), nil, api.ErrLimit)
		}
	}
}

// Steps that do not come out may be as high as they like.
func TestComposeWithoutWhatDoesNotComeOut(t *testing.T) {
	for _, f := range sample.Fields() {
		p := sample.Squares(256)
		for n := range 11 {
			most := 4095 >> n
			wantCompose(t, f, withOuts(p, n), lists(sample.Power(most)), lists(sample.Power(most<<n)), api.OK)
			wantCompose(t, f, withOuts(p, n, 0, n), lists(sample.Power(most)), lists(sample.Power(most<<n), sample.Power(most), sample.Power(most<<n)), api.OK)
			wantCompose(t, f, withOuts(p, n), lists(sample.Power(most+1)), nil, api.ErrLimit)
			wantCompose(t, f, withOuts(p, n, 11), lists(l(0, 1)), nil, api.ErrLimit)
			wantCompose(t, f, withOuts(p, 256, n), lists(l(0, 1)), nil, api.ErrLimit)
		}
		wantCompose(t, f, withOuts(p), lists(sample.Power(4095)), nil, api.OK)
		// Behind them, and between them, stands what does.
		between := api.Prog{Inputs: 1, Ops: append(slices.Clone(p.Ops[:200]), constant(4), step(api.OMul, 200, 200), step(api.OMul, 0, 201), step(api.OMul, 202, 203)), Outs: outs(203, 1)}
		wantCompose(t, f, between, lists(l(2, 1)), lists(l(8, 4), l(4, 4, 1)), api.OK)
	}
}

func TestComposeOfMuch(t *testing.T) {
	full := sample.Prog(3, 64, 256, 64)
	sums := api.Prog{Inputs: 64, Outs: slices.Repeat(outs(319, 0), 32)}
	for i := range 256 {
		sums.Ops = append(sums.Ops, step([]api.OpKind{api.OAdd, api.OSub}[i%2], 63+i, i%64))
	}
	for _, f := range sample.Fields() {
		wantComposed(t, f, full, polysFor(f, 2, 64, 9))
		wantComposed(t, f, sums, polysFor(f, 2, 64, 100))
		wantComposed(t, f, sums, slices.Repeat(lists(sample.Run(f, 1, 4096)), 64))
	}
}

// The examples of the chapter.

func TestExamples(t *testing.T) {
	wantRun(t, api.Small, squareAndFive(), l(3), l(14), api.OK)
	wantRun(t, api.Small, squareAndFive(), l(3, 4), nil, api.ErrShape)
	wantRun(t, api.Small, squareAndFive(), l(2013265921), nil, api.ErrArg)
	wantSteps(t, api.Small, api.Prog{Inputs: 1, Ops: ops(step(api.OMul, 0, 0), constant(2013265921), step(api.OAdd, 1, 2))}, l(3), l(3, 9, 0, 9), api.OK)
	wantMany(t, api.Large, square(), lists(l(2), l(3)), lists(l(4), l(9)), api.OK)
	wantMany(t, api.Large, square(), nil, nil, api.OK)
	wantCompose(t, api.Small, square(), lists(l(1, 1)), lists(l(1, 2, 1)), api.OK)
	wantCompose(t, api.Small, api.Prog{Ops: ops(constant(7)), Outs: outs(0)}, nil, lists(l(7)), api.OK)
}
