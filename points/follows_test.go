package points

// P13.3: what follows.

import (
	"slices"
	"testing"

	"conclave/api"
	"conclave/field"
	"conclave/interp"
	"conclave/sample"
)

// all are all points of a plan: the data blocks', the pads', the workers'.
func all(t *testing.T, p api.Plan) (data, pads, workers []uint64) {
	t.Helper()
	data, e := Data(p)
	pads, e2 := Pads(p)
	workers, e3 := Workers(p)
	if e != api.OK || e2 != api.OK || e3 != api.OK || len(data) != p.K || len(pads) != p.T || len(workers) != p.N {
		t.Fatalf("%v has the points %v, %v and %v, %d, %d, %d", p, data, pads, workers, e, e2, e3)
	}
	return data, pads, workers
}

func TestNoPointBelongsToTwo(t *testing.T) {
	for _, p := range append(shaped(1, 7, 64), sample.Plans()...) {
		data, pads, workers := all(t, p)
		points := slices.Sorted(slices.Values(slices.Concat(data, pads, workers)))
		if n := len(slices.Compact(slices.Clone(points))); n != p.K+p.T+p.N || points[len(points)-1] >= sample.Prime(p.Field) {
			t.Errorf("%v has the points %v", p, points)
		}
	}
}

func TestEachWorkerIsFoundByItsOwnPointAlone(t *testing.T) {
	for _, p := range append(shaped(3, 64), sample.Plans()...) {
		data, pads, workers := all(t, p)
		for i, x := range workers {
			wantWorker(t, p, x, i, true, api.OK)
		}
		for _, x := range slices.Concat(data, pads) {
			wantWorker(t, p, x, 0, false, api.OK)
		}
		for _, x := range asked(p) {
			if i, ok, e := Worker(p, x); e != api.OK || ok != slices.Contains(workers, x) || ok && workers[i] != x {
				t.Errorf("Worker(%v, %d) = %d, %v, %d", p, x, i, ok, e)
			}
		}
	}
}

// less is a less so often b that its entry at the place is 0; that of b is not.
func less(f api.Field, a, b []uint64, at int) {
	c, _ := field.Div(f, a[at], b[at])
	for i := range a {
		part, _ := field.Mul(f, c, b[i])
		a[i], _ = field.Sub(f, a[i], part)
	}
}

// independent tells whether no factors, not all 0, make a row of noughts of the rows: each row is cleared, by those ahead of it, at the places where these have their first entries.
func independent(f api.Field, rows [][]uint64) bool {
	var done [][]uint64
	var firsts []int
	for _, row := range rows {
		row = slices.Clone(row)
		for i, at := range firsts {
			less(f, row, done[i], at)
		}
		first := slices.IndexFunc(row, func(a uint64) bool { return a != 0 })
		if first < 0 {
			return false
		}
		done, firsts = append(done, row), append(firsts, first)
	}
	return true
}

// The tests below lean on its finding what is not independent.
func TestIndependent(t *testing.T) {
	for _, f := range sample.Fields() {
		top := sample.Prime(f) - 1
		for _, rows := range [][][]uint64{nil, {l(1)}, {l(0, 5)}, {l(0, 1), l(1, 0)}, {l(1, 2), l(2, 1)}, {l(1, 1, 1), l(1, 2, 4)}, {l(1, 1, 1), l(1, 2, 4), l(1, 3, 9)}, {l(0, 0, 1), l(0, 1, top), l(1, top, 0)}} {
			if !independent(f, rows) {
				t.Errorf("field %d: %v are independent", f, rows)
			}
		}
		for _, rows := range [][][]uint64{{l()}, {l(0)}, {l(0, 0)}, {l(1), l(2)}, {l(1, 2), l(0, 0)}, {l(1, 2), l(1, 2)}, {l(1, 2), l(top, top-1)}, {l(1, 2), l(2, 1), l(1, 0)}, {l(1, 2, 3), l(4, 5, 6), l(7, 8, 9)}} {
			if independent(f, rows) {
				t.Errorf("field %d: %v are not independent", f, rows)
			}
		}
	}
}

// choices are many rows out of all, or all of them where there are fewer: each choice, where these are few.
func choices(all [][]uint64, many int) [][][]uint64 {
	n := len(all)
	many = min(many, n)
	which := sample.SomeChoices(n, many)
	if n <= 8 {
		which = sample.EveryChoice(n, many)
	}
	var chosen [][][]uint64
	for _, places := range which {
		var rows [][]uint64
		for _, i := range places {
			rows = append(rows, all[i])
		}
		chosen = append(chosen, rows)
	}
	return chosen
}

// rowsOf are the rows of a plan, and of them just the entries of the pads.
func rowsOf(t *testing.T, p api.Plan) (whole, pads [][]uint64) {
	t.Helper()
	whole, e := Rows(p)
	if e != api.OK || len(whole) != p.N {
		t.Fatalf("Rows(%v) has %d rows, %d", p, len(whole), e)
	}
	for _, row := range whole {
		if len(row) != p.K+p.T {
			t.Fatalf("Rows(%v) has the row %v", p, row)
		}
		pads = append(pads, row[p.K:])
	}
	return whole, pads
}

func TestRowsAreIndependent(t *testing.T) {
	for _, p := range grounds() {
		whole, pads := rowsOf(t, p)
		for _, rows := range choices(whole, p.K+p.T) {
			if !independent(p.Field, rows) {
				t.Errorf("%v: the rows %v are not independent", p, rows)
			}
		}
		for _, rows := range choices(pads, p.T) {
			if !independent(p.Field, rows) {
				t.Errorf("%v: the rows %v of the pads alone are not independent", p, rows)
			}
		}
	}
}

// One row more than there are entries is one too many, so that the tests above ask for as many as there can be.
func TestOneRowMoreIsNotIndependent(t *testing.T) {
	asked := 0
	for _, p := range grounds() {
		whole, pads := rowsOf(t, p)
		if many := p.K + p.T; p.N > many {
			asked++
			for _, rows := range choices(whole, many+1) {
				if independent(p.Field, rows) {
					t.Errorf("%v: %d rows are independent", p, many+1)
				}
			}
		}
		if p.N > p.T {
			for _, rows := range choices(pads, p.T+1) {
				if independent(p.Field, rows) {
					t.Errorf("%v: %d rows of the pads alone are independent", p, p.T+1)
				}
			}
		}
	}
	if asked < 50 {
		t.Errorf("only %d plans were asked", asked)
	}
}

// What comes to a worker by its row is the value, at its point, of the polynomial through what stands at the inner points.
func TestRowsTellWhatComesToWorkers(t *testing.T) {
	for _, p := range grounds() {
		whole, _ := rowsOf(t, p)
		data, pads, workers := all(t, p)
		ys := sample.Run(p.Field, p.N, p.K+p.T)
		for i, row := range whole {
			dot, e := field.Dot(p.Field, row, ys)
			y, e2 := interp.Value(p.Field, slices.Concat(data, pads), ys, workers[i])
			if dot != y || e != api.OK || e2 != api.OK {
				t.Errorf("%v: to the worker %d comes %d, not %d; %d, %d", p, i, dot, y, e, e2)
			}
			// Of blocks that are all 1 comes 1.
			if sum, e := field.Dot(p.Field, row, slices.Repeat(l(1), len(row))); sum != 1 || e != api.OK {
				t.Errorf("%v: the row %v adds up to %d, %d", p, row, sum, e)
			}
		}
	}
}

// No entry is 0: of each data block and each pad something comes to each worker.
func TestNoEntryIsZero(t *testing.T) {
	for _, p := range grounds() {
		whole, _ := rowsOf(t, p)
		for i, row := range whole {
			if slices.Contains(row, 0) {
				t.Errorf("%v: the worker %d has the row %v", p, i, row)
			}
		}
	}
}
