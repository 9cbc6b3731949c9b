package pads

// Rule 5: what is handed in stays as it is, and what is answered is new memory; and nothing is kept from call to call.

import (
	"math"
	"slices"
	"testing"

	"conclave/api"
	"conclave/sample"
)

// some are plans whose pads are few enough to be tried for their memory, pair by pair.
func some() []api.Plan {
	plans := sample.NoPlans()[:3]
	for _, f := range sample.Fields() {
		for _, c := range [][2]int{{0, 3}, {1, 1}, {1, 5}, {4, 1}, {2, 2}, {3, 5}, {9, 3}} {
			plans = append(plans, drawing(f, c[0], c[1]))
		}
	}
	return plans
}

// held are tapes of elements, which stay what they are as draws, and of other numbers, with enough of them and too few.
func held(p api.Plan) [][]uint64 {
	all := lists(nil, l(7), sample.Tape(1, 30), sample.Tape(2, 100))
	if sample.Prime(p.Field) > 0 {
		all = append(all, sample.Scattered(p.Field, 60), sample.Edges(p.Field))
	}
	return all
}

func TestMemory(t *testing.T) {
	for _, p := range some() {
		for _, tape := range held(p) {
			for _, at := range []int{0, 1, len(tape) / 2, len(tape), len(tape) + 1, -1} {
				if wrong := sample.Apart(func(h [][]uint64) [][]uint64 { pads, _, _ := Blocks(p, h[0], at); return pads }, tape); wrong != "" {
					t.Errorf("Blocks(%v, %s, %d): %s", p, sample.Brief(tape), at, wrong)
				}
				if wrong := sample.Apart(func(h [][]uint64) [][]uint64 { Rounds(p, h[0], at); return nil }, tape); wrong != "" {
					t.Errorf("Rounds(%v, %s, %d): %s", p, sample.Brief(tape), at, wrong)
				}
				for _, many := range []int{0, 1, 7, len(tape) - at, len(tape), -1, math.MaxInt} {
					if wrong := sample.Apart(func(h [][]uint64) [][]uint64 { draws, _, _ := Take(p.Field, h[0], at, many); return lists(draws) }, tape); wrong != "" {
						t.Errorf("Take(%d, %s, %d, %d): %s", p.Field, sample.Brief(tape), at, many, wrong)
					}
				}
			}
		}
	}
}

// The draws of calls one behind the other, and of calls that meet the same places, share no memory either.
func TestCallsShareNothing(t *testing.T) {
	for _, p := range some() {
		if wrong := sample.Apart(func(h [][]uint64) [][]uint64 {
			first, next, _ := Take(p.Field, h[0], 0, 10)
			second, _, _ := Take(p.Field, h[0], next, 10)
			again, _, _ := Take(p.Field, h[0], 5, 10)
			pads, next, _ := Blocks(p, h[0], 0)
			more, _, _ := Blocks(p, h[0], next)
			return append(slices.Concat(pads, more), first, second, again)
		}, sample.Tape(3, 80)); wrong != "" {
			t.Errorf("%v: %s", p, wrong)
		}
	}
}

// The list of the pads, too, is new each time, the room behind its end counted.
func TestListsOfPadsAreNew(t *testing.T) {
	for _, p := range some() {
		tape := sample.Tape(4, 90)
		if wrong := sample.ApartBlocks(func([][][]uint64) [][][]uint64 {
			pads, next, _ := Blocks(p, tape, 0)
			more, _, _ := Blocks(p, tape, next)
			return [][][]uint64{pads, more}
		}); wrong != "" {
			t.Errorf("%v: %s", p, wrong)
		}
	}
}

// Whatever is put behind the end of a pad comes neither into another one nor onto the tape.
func TestNoPadIsWrittenBehindItsEnd(t *testing.T) {
	for _, p := range append(drawings(), sample.Plans()...) {
		tape := sample.Tape(5, 2*p.T*p.Width+9)
		kept := slices.Clone(tape)
		pads, next, e := Blocks(p, tape, 2)
		want := blocksBy(p, tape, 2)
		if e != api.OK {
			t.Fatalf("Blocks(%v): %d", p, e)
		}
		for i := range pads {
			_ = append(pads[i], slices.Repeat(l(85), 3*p.Width)...)
			if !same(pads, want.pads) || !slices.Equal(tape, kept) {
				t.Fatalf("Blocks(%v): what is put behind the pad %d is seen elsewhere", p, i)
			}
		}
		wantBlocks(t, p, tape, next, blocksBy(p, kept, next))
		draws, _, _ := Take(p.Field, tape, 2, p.Width)
		_ = append(draws, 85, 85, 85)
		if !slices.Equal(tape, kept) {
			t.Fatalf("Take of %v: what is put behind the draws is seen on the tape", p)
		}
	}
}

// Tapes that are nil and tapes without numbers are the same, also with room behind their end.
func TestTapesWithoutNumbers(t *testing.T) {
	for _, tape := range lists(nil, l(), l(1, 2, 3)[:0]) {
		for _, f := range sample.Fields() {
			wantTake(t, f, tape, 0, 0, taken{})
			wantTake(t, f, tape, 0, 1, taken{e: api.ErrShort})
			wantTake(t, f, tape, 1, 0, taken{e: api.ErrArg})
			wantBlocks(t, drawing(f, 0, 2), tape, 0, blocked{})
			wantBlocks(t, drawing(f, 1, 2), tape, 0, blocked{e: api.ErrShort})
			wantBlocks(t, drawing(f, 0, 2), tape, 1, blocked{e: api.ErrArg})
			wantRounds(t, drawing(f, 0, 2), tape, 0, most, api.OK)
			wantRounds(t, drawing(f, 1, 2), tape, 0, 0, api.OK)
			wantRounds(t, drawing(f, 1, 2), tape, 1, 0, api.ErrArg)
		}
	}
}

// told is all that the calls tell, in one list.
func told(p api.Plan, tape []uint64, at int) []uint64 {
	draws, next, e := Take(p.Field, tape, at, 3)
	pads, next2, e2 := Blocks(p, tape, at)
	rounds, e3 := Rounds(p, tape, at)
	return slices.Concat(append(pads, draws, l(uint64(next), uint64(e), uint64(next2), uint64(e2), uint64(rounds), uint64(e3)))...)
}

// Again, in the other order: the same comes out, also behind calls that answered an error; no call remembers which draws were taken.
func TestNothingIsKept(t *testing.T) {
	plans := some()
	tape := sample.Tape(6, 100)
	var first [][]uint64
	for i, p := range plans {
		first = append(first, told(p, tape, i))
		Take(p.Field, tape, -1, 1)
		Take(p.Field, tape, 0, 101)
		Blocks(p, tape, 100)
		Rounds(p, nil, 1)
	}
	for i, p := range slices.Backward(plans) {
		if again := told(p, tape, i); !slices.Equal(again, first[i]) {
			t.Errorf("of %v, then %s, and again %s", p, sample.Brief(first[i]), sample.Brief(again))
		}
	}
}
