package privacy

// Rule 5: what is handed in stays as it is, and what is answered is new memory; and nothing is kept from call to call.

import (
	"slices"
	"testing"

	"conclave/api"
	"conclave/sample"
)

// some are plans that are tried for their memory: ordinary ones, the limits, and one that may not be.
func some() []api.Plan {
	return append(ordinary(), sample.Plan(1, 1, 0, 0, 0, 0), sample.With(sample.Plan(64, 32, 32, 0, 0, 1), api.Large, 2), sample.With(sample.Plan(3, 2, 1, 0, 0, 1), api.Small, 64), sample.With(sample.Plan(1, 1, 63, 0, 0, 1), api.Small, 1), sample.Plan(0, 2, 1, 0, 0, 1))
}

// calls are the calls that answer lists, handed data blocks, pads and other data, one behind the other.
func calls(p api.Plan, who []int) map[string]func(h [][]uint64) [][]uint64 {
	k, n := p.K, p.K+p.T
	return map[string]func(h [][]uint64) [][]uint64{
		"Twin": func(h [][]uint64) [][]uint64 { x, _ := Twin(p, who, h[:k], h[k:n], h[n:]); return x },
		"Seen": func(h [][]uint64) [][]uint64 { x, _ := Seen(p, who, h[:k], h[k:n]); return x },
		"Twin for the data": func(h [][]uint64) [][]uint64 {
			x, _ := Twin(p, who, h[:k], h[k:n], h[:k])
			return x
		},
		"both of one block": func(h [][]uint64) [][]uint64 {
			all := slices.Repeat(h[:1], n)
			twin, _ := Twin(p, who, all[:k], all[k:], all[:k])
			seen, _ := Seen(p, who, all[:k], all[k:])
			return slices.Concat(twin, seen)
		},
	}
}

func TestMemory(t *testing.T) {
	for _, p := range some() {
		n := 2*p.K + p.T
		fine := sample.Blocks(p.Field, 3, n, p.Width)
		handed := [][][]uint64{fine, sample.EqualBlocks(0, n, p.Width), sample.Put(fine, 0, 0, sample.Prime(p.Field)), slices.Repeat(lists(l(1)), n), slices.Repeat(lists(nil), n)}
		for _, who := range names(p) {
			for _, blocks := range handed {
				for what, do := range calls(p, who) {
					if wrong := sample.Apart(do, blocks...); wrong != "" {
						t.Errorf("%s(%v, %v): %s", what, p, who, wrong)
					}
				}
			}
		}
	}
}

func TestNamesAreNotChanged(t *testing.T) {
	for _, p := range some() {
		in := good(p)
		for _, who := range append(names(p), in.who[:len(in.who)/2]) {
			if wrong := sample.Apart(func(h [][]int) [][]int {
				Twin(p, h[0], in.data, in.pads, in.other)
				Seen(p, h[0], in.data, in.pads)
				Ways(p, h[0])
				return nil
			}, who); wrong != "" {
				t.Errorf("%v, %v: %s", p, who, wrong)
			}
		}
	}
}

// Of lists of lists, too, none that is handed in is changed, and no two share their memory, the room behind their ends counted.
func TestListsOfLists(t *testing.T) {
	for _, p := range some() {
		in := good(p)
		for _, who := range [][]int{nil, in.who} {
			if wrong := sample.ApartBlocks(func(h [][][]uint64) [][][]uint64 {
				twin, _ := Twin(p, who, h[0], h[1], h[2])
				seen, _ := Seen(p, who, h[0], h[1])
				return [][][]uint64{twin, seen}
			}, in.data, in.pads, in.other); wrong != "" {
				t.Errorf("%v, %v: %s", p, who, wrong)
			}
		}
	}
}

// Lists without elements are lists that are nil, at each place.
func TestListsWithoutElements(t *testing.T) {
	for _, f := range sample.Fields() {
		plain, padded := sample.With(sample.Plan(2, 1, 0, 0, 0, 1), f, 1), sample.With(sample.Plan(2, 1, 1, 0, 0, 1), f, 1)
		for _, who := range [][]int{nil, {}, w(1)[:0]} {
			wantTwin(t, padded, who, single(4), single(5), single(4), single(5), api.OK)
			wantSeen(t, padded, who, single(4), single(5), nil, api.OK)
			wantWays(t, padded, who, 1, api.OK)
			for _, none := range [][][]uint64{nil, {}, single(4)[:0]} {
				wantTwin(t, plain, who, single(4), none, single(9), nil, api.OK)
				wantSeen(t, plain, who, single(4), none, nil, api.OK)
				wantTwin(t, padded, who, single(4), none, single(9), nil, api.ErrShape)
				wantTwin(t, padded, who, single(4), single(5), none, nil, api.ErrShape)
				wantSeen(t, padded, who, none, single(5), nil, api.ErrShape)
			}
			for _, none := range lists(nil, l(), l(4)[:0]) {
				wantTwin(t, padded, who, single(4), single(5), lists(none), nil, api.ErrShape)
				wantSeen(t, padded, who, single(4), lists(none), nil, api.ErrShape)
			}
		}
	}
}

// told is all that the calls tell, in one list.
func told(in input) []uint64 {
	twin, e := Twin(in.p, in.who, in.data, in.pads, in.other)
	seen, e2 := Seen(in.p, in.who, in.data, in.pads)
	free, e3 := Ways(in.p, in.who)
	return slices.Concat(slices.Concat(twin, seen, lists(l(uint64(e), uint64(e2), uint64(e3), uint64(free))))...)
}

// Again, in the other order: the same comes out, also behind calls that answered an error.
func TestNothingIsKept(t *testing.T) {
	plans := some()
	var first [][]uint64
	for _, p := range plans {
		first = append(first, told(good(p)))
		Twin(p, w(0, 0), nil, nil, nil)
		Seen(p, w(-1), nil, lists(l(sample.Prime(p.Field))))
		Ways(p, make([]int, 65))
	}
	for i, p := range slices.Backward(plans) {
		if again := told(good(p)); !slices.Equal(again, first[i]) {
			t.Errorf("of %v, then %s, and again %s", p, sample.Brief(first[i]), sample.Brief(again))
		}
	}
}
