package eval

// P11.4: what follows.

import (
	"slices"
	"testing"

	"conclave/api"
	"conclave/degree"
	"conclave/poly"
	"conclave/sample"
	"conclave/slp"
)

// at are the values of polynomials at an element.
func at(f api.Field, polys [][]uint64, x uint64) []uint64 {
	var values []uint64
	for _, p := range polys {
		y, _ := poly.Eval(f, p, x)
		values = append(values, y)
	}
	return values
}

// wantAtElements holds what Compose answers against Run at some elements, and tells whether there was an answer.
func wantAtElements(t *testing.T, f api.Field, p api.Prog, in [][]uint64, xs []uint64) bool {
	t.Helper()
	composed, e := Compose(f, p, in)
	if e != api.OK {
		return false
	}
	for _, x := range xs {
		wantRun(t, f, p, at(f, in, x), at(f, composed, x), api.OK)
	}
	n, _ := degree.Of(p)
	// A polynomial that is 0 is no higher than a single element.
	greatest := 0
	for _, l := range in {
		greatest = max(greatest, poly.Degree(l))
	}
	for i, l := range composed {
		if poly.Degree(l) > n*greatest || !slices.Equal(l, poly.Trim(l)) {
			t.Errorf("Compose(%d, %s, %s): %d is %s, past %d times %d", f, brief(p), briefs(in), i, sample.Brief(l), n, greatest)
		}
	}
	return true
}

func TestComposeAtElements(t *testing.T) {
	for _, f := range sample.Fields() {
		answered := 0
		for i, p := range progs() {
			for most := range 4 {
				if wantAtElements(t, f, p, polysFor(f, i, p.Inputs, 3*most), append(sample.Scattered(f, 5), 0, 1, sample.Prime(f)-1)) {
					answered++
				}
			}
		}
		if answered < 300 {
			t.Errorf("field %d: only %d were answered", f, answered)
		}
		for _, p := range []api.Prog{squareAndFive(), withOuts(squareAndFive(), 3, 0, 1)} {
			wantAtElements(t, f, p, lists(sample.Run(f, 2, 300)), sample.Elements(f))
			wantAtElements(t, f, p, lists(sample.Run(f, 2, 2048)), sample.Elements(f)[:9])
		}
	}
}

// wantOneAfterTheOther tells whether the two fit.
func wantOneAfterTheOther(t *testing.T, f api.Field, p, q api.Prog, from int) bool {
	t.Helper()
	both, e := slp.After(p, q)
	if e != api.OK {
		return false
	}
	in := sample.Run(f, from, q.Inputs)
	between, _ := Run(f, q, in)
	answer, _ := Run(f, p, between)
	wantRun(t, f, both, in, answer, api.OK)
	polys := polysFor(f, from, q.Inputs, 3)
	inner, e := Compose(f, q, polys)
	if e != api.OK {
		return true
	}
	outer, e := Compose(f, p, inner)
	composed, whole := Compose(f, both, polys)
	if e == api.OK && whole == api.OK && !same(outer, composed) {
		t.Errorf("field %d, %s after %s: %s, not %s", f, brief(p), brief(q), briefs(composed), briefs(outer))
	}
	return true
}

func TestOneAfterTheOther(t *testing.T) {
	for _, f := range sample.Fields() {
		fit := 0
		for from := range 400 {
			between := from % 6
			p, q := sample.Prog(from, between, from%23, 1+from%3), sample.Steep(from+9, 1+from%4, from%31, between)
			for _, pair := range [][2]api.Prog{{p, q}, {q, p}} {
				if wantOneAfterTheOther(t, f, pair[0], pair[1], from) {
					fit++
				}
			}
		}
		for i, p := range progs() {
			for _, q := range progs()[:40] {
				if wantOneAfterTheOther(t, f, p, q, i) {
					fit++
				}
			}
		}
		if fit < 500 {
			t.Errorf("field %d: only %d fit", f, fit)
		}
		// Powers of powers.
		for _, m := range []int{1, 2, 5, 32} {
			for _, n := range []int{1, 3, 32} {
				both, _ := slp.After(sample.Raise(m), sample.Raise(n))
				wantCompose(t, f, both, lists(l(0, 1)), lists(sample.Power(m*n)), api.OK)
				wantOneAfterTheOther(t, f, sample.Raise(m), sample.Raise(n), 7)
			}
		}
	}
}

func TestManyIsRunRowByRow(t *testing.T) {
	for _, f := range sample.Fields() {
		for i, p := range progs() {
			var rows, answers [][]uint64
			for j := range 20 {
				row := sample.Run(f, i+3*j, p.Inputs)
				answer, _ := Run(f, p, row)
				rows, answers = append(rows, row), append(answers, answer)
			}
			wantMany(t, f, p, rows, answers, api.OK)
		}
	}
}

// What comes out are those of Steps that Outs name.
func TestRunIsSomeOfSteps(t *testing.T) {
	for _, f := range sample.Fields() {
		for i, p := range progs() {
			in := sample.Run(f, i, p.Inputs)
			all, e := Steps(f, p, in)
			if e != api.OK || len(all) != p.Inputs+len(p.Ops) {
				t.Fatalf("Steps(%d, %s): %d, %d", f, brief(p), len(all), e)
			}
			var answer []uint64
			for _, out := range p.Outs {
				answer = append(answer, all[out])
			}
			wantRun(t, f, p, in, answer, api.OK)
		}
	}
}

func TestTrimChangesNothing(t *testing.T) {
	for _, f := range sample.Fields() {
		shorter := 0
		for i, p := range progs() {
			q, _ := degree.Trim(p)
			if len(q.Ops) < len(p.Ops) {
				shorter++
			}
			rows := lists(sample.Run(f, i, p.Inputs), sample.Run(f, i+5, p.Inputs))
			answer, e := Run(f, p, rows[0])
			wantRun(t, f, q, rows[0], answer, e)
			answers, e := Many(f, p, rows...)
			wantMany(t, f, q, rows, answers, e)
			polys := polysFor(f, i, p.Inputs, 5)
			composed, e := Compose(f, p, polys)
			wantCompose(t, f, q, polys, composed, e)
		}
		if shorter < 100 {
			t.Errorf("field %d: only %d were trimmed", f, shorter)
		}
	}
}
