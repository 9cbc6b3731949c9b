package share

// Rule 5: what is handed in stays as it is, and what is answered is new memory; and nothing is kept from call to call.

import (
	"slices"
	"testing"

	"conclave/api"
	"conclave/sample"
)

// some are plans that are tried for their memory: ordinary ones, the limits, and one that may not be.
func some() []api.Plan {
	return append(ordinary(), sample.Plan(1, 1, 0, 0, 0, 0), sample.Plan(2, 3, 2, 0, 0, 1), sample.With(sample.Plan(64, 32, 32, 0, 0, 1), api.Large, 2), sample.With(sample.Plan(3, 2, 1, 0, 0, 1), api.Small, 64), sample.Plan(0, 2, 1, 0, 0, 1))
}

// calls are all calls of a plan, handed K + T blocks.
func calls(p api.Plan) map[string]func(h [][]uint64) [][]uint64 {
	return map[string]func(h [][]uint64) [][]uint64{
		"Polys": func(h [][]uint64) [][]uint64 { x, _ := Polys(p, h[:p.K], h[p.K:]); return x },
		"All":   func(h [][]uint64) [][]uint64 { x, _ := All(p, h[:p.K], h[p.K:]); return x },
		"Share": func(h [][]uint64) [][]uint64 {
			x, _ := Share(p, h[:p.K], h[p.K:], 0)
			y, _ := Share(p, h[:p.K], h[p.K:], p.N-1)
			return lists(x, y)
		},
		"Open": func(h [][]uint64) [][]uint64 {
			data, pads, _ := Open(p, sample.Inputs(p.K+p.T), h)
			return slices.Concat(data, pads)
		},
		"all of one block": func(h [][]uint64) [][]uint64 {
			same := slices.Repeat(h[:1], p.K+p.T)
			polys, _ := Polys(p, same[:p.K], same[p.K:])
			shares, _ := All(p, same[:p.K], same[p.K:])
			data, pads, _ := Open(p, sample.Inputs(p.K+p.T), same)
			return slices.Concat(polys, shares, data, pads)
		},
	}
}

func TestMemory(t *testing.T) {
	for _, p := range some() {
		prime := sample.Prime(p.Field)
		handed := append(fillings(p), sample.Put(fillings(p)[0], 0, 0, prime), slices.Repeat(lists(l(1)), p.K+p.T), slices.Repeat(lists(nil), p.K+p.T))
		for _, blocks := range handed {
			for what, do := range calls(p) {
				if wrong := sample.Apart(do, blocks...); wrong != "" {
					t.Errorf("%s(%v): %s", what, p, wrong)
				}
			}
		}
	}
}

func TestNamesAreNotChanged(t *testing.T) {
	for _, p := range some() {
		n := p.K + p.T
		shares := sample.Blocks(p.Field, 4, n, p.Width)
		for _, who := range append(names(p), sample.Mixed(3, n)) {
			if wrong := sample.Apart(func(h [][]int) [][]int { Open(p, h[0], shares); return nil }, who); wrong != "" {
				t.Errorf("Open(%v, %v): %s", p, who, wrong)
			}
		}
	}
}

// outer are all calls of a plan, handed the data blocks, the pads and as many shares.
func outer(p api.Plan) func(h [][][]uint64) [][][]uint64 {
	return func(h [][][]uint64) [][][]uint64 {
		polys, _ := Polys(p, h[0], h[1])
		all, _ := All(p, h[0], h[1])
		Share(p, h[0], h[1], 0)
		data, pads, _ := Open(p, sample.Inputs(p.K+p.T), h[2])
		return [][][]uint64{polys, all, data, pads}
	}
}

// Of lists of lists, too, none that is handed in is changed, and no two share their memory, the room behind their ends counted.
func TestListsOfLists(t *testing.T) {
	for _, p := range some() {
		of := func(from, n int) [][]uint64 { return sample.Blocks(p.Field, from, n, p.Width) }
		if wrong := sample.ApartBlocks(outer(p), of(1, p.K), of(2, p.T), of(3, p.K+p.T)); wrong != "" {
			t.Errorf("%v: %s", p, wrong)
		}
	}
}

// Lists without elements are lists that are nil, at each place.
func TestListsWithoutElements(t *testing.T) {
	for _, f := range sample.Fields() {
		p := sample.With(sample.Plan(2, 1, 0, 0, 0, 1), f, 1)
		padded := sample.With(sample.Plan(2, 1, 1, 0, 0, 1), f, 1)
		for _, none := range [][][]uint64{nil, {}, single(4)[:0]} {
			wantPolys(t, p, single(4), none, single(4), api.OK)
			wantAll(t, p, single(4), none, single(4, 4), api.OK)
			wantShare(t, p, single(4), none, 1, l(4), api.OK)
			wantPolys(t, padded, single(4), none, nil, api.ErrShape)
			wantAll(t, p, none, none, nil, api.ErrShape)
			for _, who := range [][]int{nil, {}, []int{1}[:0]} {
				wantOpen(t, p, who, none, nil, nil, api.ErrShape)
			}
		}
		for _, none := range lists(nil, l(), l(4)[:0]) {
			wantPolys(t, p, lists(none), nil, nil, api.ErrShape)
			wantShare(t, p, lists(none), nil, 0, nil, api.ErrShape)
			wantOpen(t, p, []int{1}, lists(none), nil, nil, api.ErrShape)
		}
	}
}

// told is all that the calls tell, in one list.
func told(p api.Plan, blocks [][]uint64) []uint64 {
	data, pads := blocks[:p.K], blocks[p.K:]
	polys, e := Polys(p, data, pads)
	shares, e2 := All(p, data, pads)
	share, e3 := Share(p, data, pads, p.N-1)
	opened, openedPads, e4 := Open(p, sample.Mixed(1, p.K+p.T), blocks)
	return slices.Concat(slices.Concat(polys, shares, lists(share), opened, openedPads, lists(l(uint64(e), uint64(e2), uint64(e3), uint64(e4))))...)
}

// Again, in the other order: the same comes out, also behind calls that answered an error.
func TestNothingIsKept(t *testing.T) {
	plans := some()
	var first [][]uint64
	for _, p := range plans {
		first = append(first, told(p, fillings(p)[0]))
		Polys(p, nil, nil)
		Share(p, nil, nil, -1)
		Open(p, []int{-1}, lists(l(sample.Prime(p.Field))))
	}
	for i, p := range slices.Backward(plans) {
		if again := told(p, fillings(p)[0]); !slices.Equal(again, first[i]) {
			t.Errorf("of %v, then %s, and again %s", p, sample.Brief(first[i]), sample.Brief(again))
		}
	}
}
