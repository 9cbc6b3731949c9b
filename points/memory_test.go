package points

// Rule 5: what is handed in stays as it is, and what is answered is new memory; and nothing is kept from call to call.

import (
	"slices"
	"testing"

	"conclave/api"
	"conclave/sample"
)

func TestMemory(t *testing.T) {
	for _, p := range append(grounds(), sample.NoPlans()...) {
		before := p
		for what, of := range lists() {
			if wrong := sample.Apart(func([][]uint64) [][]uint64 { x, _ := of(p); return [][]uint64{x} }); wrong != "" {
				t.Errorf("%s(%v): %s", what, p, wrong)
			}
		}
		if wrong := sample.Apart(func([][]uint64) [][]uint64 { rows, _ := Rows(p); return rows }); wrong != "" {
			t.Errorf("Rows(%v): %s", p, wrong)
		}
		// All of a plan's lists at once: no two calls share any.
		if wrong := sample.Apart(func([][]uint64) [][]uint64 {
			data, _ := Data(p)
			pads, _ := Pads(p)
			workers, _ := Workers(p)
			rows, _ := Rows(p)
			return append(rows, data, pads, workers)
		}); wrong != "" {
			t.Errorf("all of %v: %s", p, wrong)
		}
		if p != before {
			t.Errorf("%v was %v", p, before)
		}
	}
}

// The list of the rows too is new each time, the room behind its end counted.
func TestRowsAreNew(t *testing.T) {
	for _, p := range grounds() {
		rows, _ := Rows(p)
		other, _ := Rows(p)
		kept := slices.Clone(other)
		clear(rows[:cap(rows)])
		if !same(other, kept) {
			t.Errorf("Rows(%v): two answers are one list", p)
		}
	}
}

// told is all that the calls tell of a plan, in one list; a worker that is found counts from 1 on there, since 0 stands for none.
func told(p api.Plan) []uint64 {
	data, e := Data(p)
	pads, e2 := Pads(p)
	workers, e3 := Workers(p)
	rows, e4 := Rows(p)
	all := slices.Concat(append(rows, data, pads, workers, l(uint64(e), uint64(e2), uint64(e3), uint64(e4)))...)
	for _, x := range l(0, 1, 2, 5, 63, 64, 127, 128, sample.Prime(api.Small), sample.Prime(api.Large)) {
		i, ok, e := Worker(p, x)
		if ok {
			i++
		}
		all = append(all, uint64(i), uint64(e))
	}
	return all
}

// Again, in the other order, and with what was answered written over: the same comes out.
func TestNothingIsKept(t *testing.T) {
	plans := append(grounds(), sample.NoPlans()...)
	var first [][]uint64
	for _, p := range plans {
		first = append(first, told(p))
		for _, of := range lists() {
			points, _ := of(p)
			clear(points[:cap(points)])
		}
		rows, _ := Rows(p)
		for _, row := range rows {
			clear(row[:cap(row)])
		}
	}
	for i, p := range slices.Backward(plans) {
		if again := told(p); !slices.Equal(again, first[i]) {
			t.Errorf("of %v, then %s, and again %s", p, sample.Brief(first[i]), sample.Brief(again))
		}
	}
}
