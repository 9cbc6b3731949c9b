package degree

// P10.3: what follows.

import (
	"math/big"
	"slices"
	"testing"

	"conclave/api"
	"conclave/sample"
	"conclave/slp"
)

// wantAtMostTheProduct tells whether the two fit and have degrees that are asked for.
func wantAtMostTheProduct(t *testing.T, p, q api.Prog) bool {
	t.Helper()
	both, e := slp.After(p, q)
	m, ep := Of(p)
	n, eq := Of(q)
	if e != api.OK || ep != api.OK || eq != api.OK || m < 1 || n < 1 {
		return false
	}
	got, e := Of(both)
	if e == api.ErrLimit && m*n <= 1024 || e == api.OK && got > m*n || e != api.OK && e != api.ErrLimit {
		t.Errorf("%s after %s: the degrees %d and %d, both together %d, %d", brief(p), brief(q), m, n, got, e)
	}
	return true
}

func TestTheDegreeOfOneBehindTheOther(t *testing.T) {
	asked := 0
	for from := range 1500 {
		between := 1 + from%5
		p, q := sample.Steep(from, between, from%23, 1+from%3), sample.Steep(from+9, 1+from%4, from%31, between)
		if wantAtMostTheProduct(t, p, q) {
			asked++
		}
	}
	for _, p := range progs() {
		for _, q := range progs()[:60] {
			if wantAtMostTheProduct(t, p, q) {
				asked++
			}
		}
	}
	if asked < 1000 {
		t.Errorf("only %d were asked", asked)
	}
}

// Where it is just the product, up to the bound and past it.
func TestTheDegreeOfPowersOfPowers(t *testing.T) {
	for _, m := range []int{1, 2, 3, 7, 25, 31, 32, 33, 41, 512, 1023, 1024} {
		for _, n := range []int{1, 2, 3, 5, 25, 31, 32, 33, 41, 341, 1024} {
			both, _ := slp.After(sample.Raise(m), sample.Raise(n))
			if m*n <= 1024 {
				wantOf(t, both, m*n, api.OK)
			} else {
				wantOf(t, both, 0, api.ErrLimit)
			}
			wantAtMostTheProduct(t, sample.Raise(m), sample.Raise(n))
		}
	}
}

func TestTrimChangesNoDegree(t *testing.T) {
	for _, p := range progs() {
		wantTrimmed(t, p)
		wantTrimmed(t, withOuts(p))
		if top := last(p); top >= 0 {
			wantTrimmed(t, withOuts(p, top))
			wantTrimmed(t, withOuts(p, top, 0))
			wantTrimmed(t, withOuts(p, top/2, top/3))
		}
	}
}

// wantTrimmed holds a program against what Trim makes of it.
func wantTrimmed(t *testing.T, p api.Prog) {
	t.Helper()
	q, e := Trim(p)
	if e != api.OK || !slp.May(q) || q.Inputs != p.Inputs || len(q.Outs) != len(p.Outs) || len(q.Ops) > len(p.Ops) {
		t.Fatalf("Trim(%s) = %s, %d", brief(p), brief(q), e)
	}
	if !slices.EqualFunc(outsBy(p), outsBy(q), func(m, n *big.Int) bool { return m.Cmp(n) == 0 }) {
		t.Errorf("Trim(%s) = %s: what comes out has other degrees", brief(p), brief(q))
	}
	n, e := Of(p)
	wantOf(t, q, n, e)
	// What is left is at most as high as what comes out of it.
	if _, all := All(q); all != e {
		t.Errorf("All(Trim(%s)): %d, not %d", brief(p), all, e)
	}
	l, _ := Uses(p)
	wantUses(t, q, l, api.OK)
	wantTrim(t, q, q, api.OK)
	wantSameForms(t, p, q)
}

// forms gives each value a number that stands for all that it is made of: like numbers, like makings.
func forms(p api.Prog, seen map[api.Op]int) []int {
	values := sample.Inputs(p.Inputs)
	for _, op := range p.Ops {
		if op.Kind != api.OConst {
			op.A, op.B = values[op.A], values[op.B]
		}
		if _, ok := seen[op]; !ok {
			seen[op] = api.MaxInputs + len(seen)
		}
		values = append(values, seen[op])
	}
	return values
}

// wantSameForms: what comes out is made the same way, to the last step.
func wantSameForms(t *testing.T, p, q api.Prog) {
	t.Helper()
	seen := map[api.Op]int{}
	before, after := forms(p, seen), forms(q, seen)
	for i := range p.Outs {
		if before[p.Outs[i]] != after[q.Outs[i]] {
			t.Errorf("Trim(%s) = %s: the Out %d is another one", brief(p), brief(q), i)
		}
	}
}
