package poly

import (
	"math"
	"math/big"
	"slices"
	"testing"

	"conclave/api"
	"conclave/sample"
)

func l(a ...uint64) []uint64 { return a }

// The reference: the same things by the words of the chapter, in big numbers that are brought down at the end alone.

func bigs(p []uint64) []*big.Int {
	b := make([]*big.Int, len(p))
	for i := range p {
		b[i] = new(big.Int).SetUint64(p[i])
	}
	return b
}

func down(f api.Field, b []*big.Int) []uint64 {
	prime := new(big.Int).SetUint64(sample.Prime(f))
	p := make([]uint64, len(b))
	for i := range b {
		p[i] = new(big.Int).Mod(b[i], prime).Uint64()
	}
	for len(p) > 0 && p[len(p)-1] == 0 {
		p = p[:len(p)-1]
	}
	return p
}

func noughts(n int) []*big.Int { return bigs(make([]uint64, n)) }

func addBy(f api.Field, p, q []uint64) []uint64 {
	b := noughts(max(len(p), len(q)))
	for i, a := range bigs(p) {
		b[i].Add(b[i], a)
	}
	for i, a := range bigs(q) {
		b[i].Add(b[i], a)
	}
	return down(f, b)
}

func subBy(f api.Field, p, q []uint64) []uint64 {
	b := noughts(max(len(p), len(q)))
	for i, a := range bigs(p) {
		b[i].Add(b[i], a)
	}
	for i, a := range bigs(q) {
		b[i].Sub(b[i], a)
	}
	return down(f, b)
}

func mulBy(f api.Field, p, q []uint64) []uint64 {
	b, x, y := noughts(len(p)+len(q)), bigs(p), bigs(q)
	for i := range x {
		for j := range y {
			b[i+j].Add(b[i+j], new(big.Int).Mul(x[i], y[j]))
		}
	}
	return down(f, b)
}

func evalBy(f api.Field, p []uint64, x uint64) uint64 {
	sum, power := new(big.Int), big.NewInt(1)
	prime := new(big.Int).SetUint64(sample.Prime(f))
	for _, a := range bigs(p) {
		sum.Add(sum, a.Mul(a, power))
		power.Mul(power, new(big.Int).SetUint64(x))
		power.Mod(power, prime)
	}
	return sum.Mod(sum, prime).Uint64()
}

// intoBy sums up p's coefficients times the powers of q.
func intoBy(f api.Field, p, q []uint64) []uint64 {
	var sum []uint64
	power := l(1)
	for _, a := range p {
		sum = addBy(f, sum, mulBy(f, l(a), power))
		power = mulBy(f, power, q)
	}
	return sum
}

// binary is a call that makes one polynomial of two.
type binary func(f api.Field, p, q []uint64) ([]uint64, api.Errno)

// scale is Scale with its element as a list of one, so that it can be held beside the other calls.
func scale(f api.Field, p, q []uint64) ([]uint64, api.Errno) {
	if len(p) != 1 {
		return nil, api.ErrShape
	}
	return Scale(f, p[0], q)
}

func want(t *testing.T, what string, do binary, f api.Field, p, q, answer []uint64, e api.Errno) {
	t.Helper()
	if x, r := do(f, p, q); !slices.Equal(x, answer) || r != e {
		t.Errorf("%s(%d, %s, %s) = %s, %d, not %s, %d", what, f, sample.Brief(p), sample.Brief(q), sample.Brief(x), r, sample.Brief(answer), e)
	}
}

func wantEval(t *testing.T, f api.Field, p []uint64, x, answer uint64, e api.Errno) {
	t.Helper()
	if y, r := Eval(f, p, x); y != answer || r != e {
		t.Errorf("Eval(%d, %s, %d) = %d, %d, not %d, %d", f, sample.Brief(p), x, y, r, answer, e)
	}
}

func wantDivMod(t *testing.T, f api.Field, p, q, quo, rem []uint64, e api.Errno) {
	t.Helper()
	x, y, r := DivMod(f, p, q)
	if !slices.Equal(x, quo) || !slices.Equal(y, rem) || r != e {
		t.Errorf("DivMod(%d, %s, %s) = %s, %s, %d, not %s, %s, %d", f, sample.Brief(p), sample.Brief(q), sample.Brief(x), sample.Brief(y), r, sample.Brief(quo), sample.Brief(rem), e)
	}
}

// must stops a test that leans on a call that answered an error.
func must(t *testing.T, do binary, f api.Field, p, q []uint64) []uint64 {
	x, e := do(f, p, q)
	if e != api.OK {
		t.Helper()
		t.Fatalf("field %d, %s and %s: %d", f, sample.Brief(p), sample.Brief(q), e)
	}
	return x
}

func value(t *testing.T, f api.Field, p []uint64, x uint64) uint64 {
	y, e := Eval(f, p, x)
	if e != api.OK {
		t.Helper()
		t.Fatalf("Eval(%d, %s, %d): %d", f, sample.Brief(p), x, e)
	}
	return y
}

// P3.1

func TestTrimAndDegree(t *testing.T) {
	long := sample.Power(2*api.MaxPoly + 3)
	for _, c := range []struct{ p, want []uint64 }{
		{nil, nil}, {l(), nil}, {l(0), nil}, {l(0, 0), nil}, {make([]uint64, 5000), nil},
		{l(7), l(7)}, {l(7, 0), l(7)}, {l(0, 7), l(0, 7)}, {l(0, 7, 0, 0), l(0, 7)},
		{l(1, 0, 2, 0), l(1, 0, 2)}, {l(1, 0, 0, 2), l(1, 0, 0, 2)},
		// No field is asked for: any numbers will do, and any length.
		{l(math.MaxUint64), l(math.MaxUint64)},
		{l(0, math.MaxUint64, 0), l(0, math.MaxUint64)},
		{l(1<<63, 0, 1<<32, 0), l(1<<63, 0, 1<<32)},
		{long, long}, {sample.Padded(long, len(long)+4000), long}, {sample.Padded(l(3), 70000), l(3)},
	} {
		if x := Trim(c.p); !slices.Equal(x, c.want) {
			t.Errorf("Trim(%s) = %s, not %s", sample.Brief(c.p), sample.Brief(x), sample.Brief(c.want))
		}
		if n := Degree(c.p); n != len(c.want)-1 {
			t.Errorf("Degree(%s) = %d, not %d", sample.Brief(c.p), n, len(c.want)-1)
		}
	}
}

// P3.2

func TestSumsDifferencesProducts(t *testing.T) {
	for _, f := range sample.Fields() {
		for _, p := range sample.Polys(f) {
			for _, q := range sample.Polys(f) {
				want(t, "Add", Add, f, p, q, addBy(f, p, q), api.OK)
				want(t, "Sub", Sub, f, p, q, subBy(f, p, q), api.OK)
				want(t, "Mul", Mul, f, p, q, mulBy(f, p, q), api.OK)
			}
		}
	}
}

func TestScale(t *testing.T) {
	for _, f := range sample.Fields() {
		for _, c := range sample.Elements(f) {
			for _, p := range sample.Polys(f) {
				want(t, "Scale", scale, f, l(c), p, mulBy(f, l(c), p), api.OK)
			}
		}
	}
}

func TestEval(t *testing.T) {
	for _, f := range sample.Fields() {
		for _, p := range sample.Polys(f) {
			for _, x := range sample.Elements(f) {
				wantEval(t, f, p, x, evalBy(f, p, x), api.OK)
			}
		}
		for _, x := range sample.Edges(f) {
			p := sample.Run(f, 3, api.MaxPoly)
			wantEval(t, f, p, x, evalBy(f, p, x), api.OK)
		}
	}
}

// What ends with noughts by being reckoned is trimmed like what was handed in with them.
func TestNoughtsThatComeToStandAtTheEnd(t *testing.T) {
	for _, f := range sample.Fields() {
		top := sample.Prime(f) - 1
		want(t, "Add", Add, f, l(1, 2), l(1, top-1), l(2), api.OK)
		want(t, "Add", Add, f, l(1, 2, 3), l(top, top-1, top-2), nil, api.OK)
		want(t, "Add", Add, f, l(1, 0, 3), l(0, 0, top-2), l(1), api.OK)
		want(t, "Add", Add, f, l(1, 0, 0), l(0, 0), l(1), api.OK)
		want(t, "Sub", Sub, f, l(1, 2, 3), l(0, 2, 3), l(1), api.OK)
		want(t, "Sub", Sub, f, l(0, 0), l(0, 0, 0), nil, api.OK)
		want(t, "Sub", Sub, f, l(5, 0), l(5), nil, api.OK)
		want(t, "Mul", Mul, f, l(1, 1, 0), l(1, top, 0, 0), l(1, 0, top), api.OK)
		want(t, "Mul", Mul, f, l(0, 0), l(1, 2, 3), nil, api.OK)
		want(t, "Mul", Mul, f, l(1, 2, 3), l(0, 0), nil, api.OK)
		want(t, "Scale", scale, f, l(3), l(1, 2, 0), l(3, 6), api.OK)
		want(t, "Scale", scale, f, l(0), l(1, 2, 3), nil, api.OK)
		for _, p := range sample.Polys(f) {
			want(t, "Sub", Sub, f, p, p, nil, api.OK)
		}
	}
}

// P3.3

// division holds DivMod against what p was put together from: there is only one quotient and one remainder.
func division(t *testing.T, f api.Field, quo, q, rem []uint64) {
	t.Helper()
	p := addBy(f, mulBy(f, quo, q), rem)
	for _, p := range [][]uint64{p, sample.Padded(p, len(p)+2)} {
		for _, q := range [][]uint64{q, sample.Padded(q, len(q)+2)} {
			wantDivMod(t, f, p, q, down(f, bigs(quo)), down(f, bigs(rem)), api.OK)
		}
	}
}

func TestDivMod(t *testing.T) {
	for _, f := range sample.Fields() {
		polys := sample.Polys(f)
		for _, q := range polys {
			if Degree(q) < 0 {
				continue
			}
			for _, quo := range polys {
				for _, rem := range polys {
					if Degree(rem) < Degree(q) && len(quo) < 30 {
						division(t, f, quo, Trim(q), rem)
					}
				}
			}
		}
	}
}

func TestDivModByAGreaterDegree(t *testing.T) {
	for _, f := range sample.Fields() {
		for _, p := range sample.Polys(f) {
			for more := 1; more < 5; more++ {
				wantDivMod(t, f, p, sample.Power(Degree(p)+more), nil, Trim(p), api.OK)
			}
			q := sample.Run(f, 9, api.MaxPoly)
			wantDivMod(t, f, p, q, nil, Trim(p), api.OK)
		}
	}
}

func TestDivModByASingleElement(t *testing.T) {
	for _, f := range sample.Fields() {
		for _, p := range sample.Polys(f) {
			for _, c := range sample.NotZero(sample.Elements(f)) {
				inverse := new(big.Int).ModInverse(bigs(l(c))[0], bigs(l(sample.Prime(f)))[0]).Uint64()
				quo := mulBy(f, p, l(inverse))
				wantDivMod(t, f, p, l(c), quo, nil, api.OK)
				wantDivMod(t, f, p, l(c, 0, 0), quo, nil, api.OK)
			}
		}
	}
}

func TestDivModOfLongLists(t *testing.T) {
	for _, f := range sample.Fields() {
		for _, n := range []int{1, 2, 64, 2048, 4095, 4096} {
			q := sample.Run(f, 5, n)
			quo := sample.Run(f, 40, api.MaxPoly-n+1)
			rem := sample.Run(f, 77, n-1)
			p := must(t, Add, f, must(t, Mul, f, quo, q), rem)
			if len(p) != api.MaxPoly {
				t.Fatalf("%d coefficients", len(p))
			}
			wantDivMod(t, f, p, q, quo, rem, api.OK)
			wantDivMod(t, f, p, sample.Padded(q, api.MaxPoly), quo, rem, api.OK)
		}
	}
}

func TestInto(t *testing.T) {
	for _, f := range sample.Fields() {
		polys := sample.Polys(f)
		for _, p := range polys {
			for _, q := range polys {
				if len(p)*len(q) < 400 {
					want(t, "Into", Into, f, p, q, intoBy(f, p, q), api.OK)
				}
			}
		}
	}
}

func TestIntoOfDegreesBelowOne(t *testing.T) {
	for _, f := range sample.Fields() {
		long := sample.Run(f, 3, api.MaxPoly)
		for _, zero := range [][]uint64{nil, l(0), make([]uint64, api.MaxPoly)} {
			want(t, "Into", Into, f, zero, long, nil, api.OK)
			want(t, "Into", Into, f, zero, zero, nil, api.OK)
			want(t, "Into", Into, f, long, zero, long[:1], api.OK)
			want(t, "Into", Into, f, l(0, 3, 4), zero, nil, api.OK)
		}
		for _, c := range sample.NotZero(sample.Edges(f)) {
			want(t, "Into", Into, f, l(c), long, l(c), api.OK)
			want(t, "Into", Into, f, sample.Padded(l(c), api.MaxPoly), long, l(c), api.OK)
			want(t, "Into", Into, f, long, l(c), down(f, bigs(l(evalBy(f, long, c)))), api.OK)
			want(t, "Into", Into, f, long, sample.Padded(l(c), api.MaxPoly), down(f, bigs(l(evalBy(f, long, c)))), api.OK)
			// c is where this one is 0.
			want(t, "Into", Into, f, subBy(f, l(0, 1), l(c)), l(c), nil, api.OK)
		}
	}
}

func TestIntoOfPowers(t *testing.T) {
	for _, f := range sample.Fields() {
		for _, c := range [][2]int{{1, 1}, {1, 4095}, {4095, 1}, {65, 63}, {2, 2047}, {30, 30}} {
			want(t, "Into", Into, f, sample.Power(c[0]), sample.Power(c[1]), sample.Power(c[0]*c[1]), api.OK)
		}
	}
}

// The chapter's examples

func TestExamples(t *testing.T) {
	const top = 2013265920
	want(t, "Add", Add, api.Small, l(1, 2), l(top), l(0, 2), api.OK)
	want(t, "Sub", Sub, api.Small, l(1), l(1, 0, 1), l(0, 0, top), api.OK)
	want(t, "Mul", Mul, api.Large, l(1, 1), l(1, 1), l(1, 2, 1), api.OK)
	wantEval(t, api.Small, l(1, 2, 3), 2, 17, api.OK)
	wantEval(t, api.Small, nil, 5, 0, api.OK)
	wantEval(t, api.Small, l(top+1), 1, 0, api.ErrArg)
	wantDivMod(t, api.Small, l(1, 2, 1), l(1, 1), l(1, 1), nil, api.OK)
	wantDivMod(t, api.Small, l(5), l(0, 1), nil, l(5), api.OK)
	wantDivMod(t, api.Small, l(1), l(0), nil, nil, api.ErrZero)
	want(t, "Into", Into, api.Small, l(0, 0, 1), l(1, 1), l(1, 2, 1), api.OK)
	want(t, "Into", Into, api.Small, l(7), nil, l(7), api.OK)
	want(t, "Into", Into, api.Small, l(1, 1), nil, l(1), api.OK)
}
