package pads

// P19.3: what follows.

import (
	"slices"
	"testing"

	"conclave/api"
	"conclave/sample"
)

// Two calls one behind the other take the draws that one call for both takes; the second of them lacks draws, or the first, if the one call does.
func TestTakeTwice(t *testing.T) {
	for _, f := range sample.Fields() {
		for _, n := range []int{0, 1, 2, 5, 9, 30} {
			tape := sample.Tape(n, n)
			for at := range n + 1 {
				for first := range n + 2 - at {
					for second := range n + 3 - at {
						both, next, e := Take(f, tape, at, first+second)
						one, between, e1 := Take(f, tape, at, first)
						if e1 != api.OK {
							wantTake(t, f, tape, at, first+second, taken{e: e1})
							continue
						}
						other, end, e2 := Take(f, tape, between, second)
						if e != e2 || end != next || e == api.OK && !slices.Equal(slices.Concat(one, other), both) {
							t.Errorf("field %d, %s from %d on: %v, %v and %v, %d, not %v, %d, %d", f, sample.Brief(tape), at, one, other, e2, end, both, next, e)
						}
					}
				}
			}
		}
	}
}

// The pads of two calls are those that a plan of as many pads as both has in one.
func TestBlocksTwice(t *testing.T) {
	for _, f := range sample.Fields() {
		for _, width := range []int{1, 2, 5, 64} {
			for _, c := range [][2]int{{0, 0}, {0, 3}, {3, 0}, {1, 1}, {1, 2}, {5, 3}, {31, 32}} {
				first, second, both := drawing(f, c[0], width), drawing(f, c[1], width), drawing(f, c[0]+c[1], width)
				for spare := range 4 {
					tape := sample.Tape(spare, 3+both.T*width+spare-1)
					one, between, e := Blocks(first, tape, 3)
					if e != api.OK {
						wantBlocks(t, both, tape, 3, blocked{e: e})
						continue
					}
					other, next, e := Blocks(second, tape, between)
					want := blocked{slices.Concat(one, other), next, e}
					if e != api.OK {
						want.pads = nil
					}
					wantBlocks(t, both, tape, 3, want)
				}
			}
		}
	}
}

// All pads of two rounds are, one behind the other, what one call of Take has.
func TestTwoRoundsAgainstTake(t *testing.T) {
	for _, p := range append(drawings(), sample.Plans()...) {
		draws := p.T * p.Width
		tape := sample.Tape(6, 4+2*draws)
		one, between, e1 := Blocks(p, tape, 4)
		other, end, e2 := Blocks(p, tape, between)
		all, next, e := Take(p.Field, tape, 4, 2*draws)
		if e != api.OK || e1 != api.OK || e2 != api.OK || next != len(tape) || end != next {
			t.Fatalf("%v: %d, %d, %d; %d, %d, %d", p, between, end, next, e1, e2, e)
		}
		if got := slices.Concat(slices.Concat(one, other)...); !slices.Equal(got, all) {
			t.Errorf("%v: %s, not %s", p, sample.Brief(got), sample.Brief(all))
		}
	}
}

// around has other numbers ahead of a place and from another one on.
func around(tape []uint64, at, next int) []uint64 {
	tape = slices.Clone(tape)
	for i := range tape {
		if i < at || i >= next {
			tape[i] ^= 1<<63 + 1
		}
	}
	return tape
}

// What lies ahead of at and behind next does not matter: other numbers, fewer, none, more of them.
func TestTakeOfAPiece(t *testing.T) {
	for _, f := range sample.Fields() {
		tape := sample.Tape(7, 60)
		for at := range len(tape) + 1 {
			for many := range len(tape) - at + 1 {
				want := takeBy(f, tape, at, many)
				wantTake(t, f, around(tape, at, want.next), at, many, want)
				wantTake(t, f, tape[:want.next:want.next], at, many, want)
				wantTake(t, f, append(slices.Clone(tape[:want.next]), 8, 9), at, many, want)
				want.next = many
				wantTake(t, f, tape[at:at+many:at+many], 0, many, want)
				wantTake(t, f, tape[at:], 0, many, want)
			}
		}
	}
}

func TestBlocksOfAPiece(t *testing.T) {
	for _, p := range drawings() {
		draws := p.T * p.Width
		tape := sample.Tape(8, draws+20)
		for _, at := range []int{0, 1, 7, 19, 20} {
			want := blocksBy(p, tape, at)
			wantBlocks(t, p, around(tape, at, want.next), at, want)
			wantBlocks(t, p, tape[:want.next:want.next], at, want)
			want.next -= at
			wantBlocks(t, p, tape[at:], 0, want)
		}
	}
}

// A number that is so many primes more is the same draw.
func TestTakeOfEqualRests(t *testing.T) {
	for _, f := range sample.Fields() {
		prime := sample.Prime(f)
		for _, a := range sample.Elements(f) {
			// Above the prime there is room for numbers below 2^32 - 1 in Large, for all of them in Small.
			if more := a + prime; more > a {
				wantTake(t, f, l(more, a), 0, 2, taken{l(a, a), 2, api.OK})
			}
		}
	}
}

// Rounds one behind the other use each place of the tape once, in its order, but for what is less than a round at its end.
func TestRoundsUsePlacesOnce(t *testing.T) {
	for _, p := range drawings() {
		draws := p.T * p.Width
		for _, rest := range []int{0, draws / 2, draws - 1} {
			if draws == 0 || rest >= draws {
				continue
			}
			start := 3
			tape := counted(start + 5*draws + rest)
			rounds, e := Rounds(p, tape, start)
			if rounds != 5 || e != api.OK {
				t.Fatalf("Rounds(%v) = %d, %d", p, rounds, e)
			}
			at := start
			var used []uint64
			for range rounds {
				pads, next, e := Blocks(p, tape, at)
				if e != api.OK || len(pads) != p.T || next != at+draws {
					t.Fatalf("Blocks(%v) at %d: %d pads, %d, %d", p, at, len(pads), next, e)
				}
				used = append(used, slices.Concat(pads...)...)
				at = next
			}
			if want := counted(at)[start:]; !slices.Equal(used, want) {
				t.Errorf("%v: %s, not %s", p, sample.Brief(used), sample.Brief(want))
			}
			wantBlocks(t, p, tape, at, blocked{e: api.ErrShort})
		}
	}
}

// roundsOf are the pads of all rounds from the tape's beginning on, for a plan that has pads.
func roundsOf(p api.Plan, tape []uint64) [][][]uint64 {
	var rounds [][][]uint64
	at := 0
	for range len(tape) + 1 {
		pads, next, e := Blocks(p, tape, at)
		if e != api.OK {
			break
		}
		rounds, at = append(rounds, pads), next
	}
	return rounds
}

// Another number at one place is seen in one element of one pad of one round alone.
func TestAPlaceIsOneDraw(t *testing.T) {
	for _, f := range sample.Fields() {
		for _, p := range []api.Plan{drawing(f, 1, 1), drawing(f, 1, 3), drawing(f, 3, 1), drawing(f, 2, 4)} {
			tape := sample.Tape(9, 4*p.T*p.Width)
			before := roundsOf(p, tape)
			for place := range tape {
				other := slices.Clone(tape)
				other[place] = (restBy(f, tape[place]) + 1) % sample.Prime(f)
				after := roundsOf(p, other)
				if len(before) != 4 || len(after) != 4 {
					t.Fatalf("%v: %d rounds, then %d", p, len(before), len(after))
				}
				for round, pads := range after {
					for pad := range pads {
						for i := range pads[pad] {
							here := (round*p.T+pad)*p.Width+i == place
							if (pads[pad][i] != before[round][pad][i]) != here {
								t.Errorf("%v: the place %d, and the element %d of the pad %d of the round %d", p, place, i, pad, round)
							}
						}
					}
				}
			}
		}
	}
}
