package pads

// P19.1 and P19.2: the errors, which of them comes first, and what stands beside them.

import (
	"math"
	"slices"
	"testing"

	"conclave/api"
	"conclave/sample"
)

// tapes are tapes of no number, one, some, and many.
func tapes() [][]uint64 {
	return lists(nil, l(7), sample.Tape(1, 5), sample.Tape(2, 300), sample.Tape(3, 5000))
}

// wantNoPlan has both calls of a plan answer that it may not be, and nothing beside it, whatever else is handed in.
func wantNoPlan(t *testing.T, p api.Plan) {
	t.Helper()
	for _, tape := range tapes() {
		for _, at := range ats(len(tape)) {
			wantBlocks(t, p, tape, at, blocked{e: api.ErrArg})
			wantRounds(t, p, tape, at, 0, api.ErrArg)
		}
	}
}

func TestNoPlan(t *testing.T) {
	for _, p := range sample.NoPlans() {
		wantNoPlan(t, p)
		// Without pads it may not be, either, if it may not be for another number.
		if p.T >= 0 && p.T < 64 && p.K >= 1 && p.K < 64 && p.K+p.T < 65 {
			p.T = 0
			wantNoPlan(t, p)
		}
	}
}

// The numbers next to those that may be, one at a time, with all else right.
func TestNoPlanByHand(t *testing.T) {
	for _, f := range sample.Fields() {
		good := sample.With(sample.Plan(11, 3, 1, 0, 2, 2), f, 2)
		wantBlocks(t, good, l(1, 2, 3), 0, blocked{lists(l(1, 2)), 2, api.OK})
		for i, wrong := range [][]int{{0, -1, 65}, {0, -1, 64, 65}, {-1, 62, 63}, {-1, 65}, {-1, 65}, {-1, 1025}, {0, -1, 65}} {
			for _, n := range append(wrong, math.MinInt, math.MaxInt) {
				p := good
				*sample.PlanNumbers(&p)[i] = n
				wantNoPlan(t, p)
			}
		}
		// Numbers whose sums and products would wrap to ones that may be.
		for _, p := range []api.Plan{sample.Plan(4, math.MaxInt, math.MinInt, 0, 0, 1), sample.Plan(4, math.MinInt, math.MinInt, 0, 0, 1), sample.Plan(4, -2, 4, 0, 0, 1), sample.Plan(4, 4, -2, 0, 0, 1)} {
			wantNoPlan(t, sample.With(p, f, 1))
		}
		wantNoPlan(t, sample.With(sample.Plan(4, 1, 2, 0, 0, 1), f, math.MinInt))
		wantNoPlan(t, sample.With(sample.Plan(4, 1, -2, 0, 0, 1), f, -3))
		wantNoPlan(t, sample.With(sample.Plan(4, 1, 4, 0, 0, 1), f, 1<<62))
	}
}

func TestNoField(t *testing.T) {
	tape := l(1, 2, 3, 4, 5)
	for f := range 256 {
		p := drawing(api.Field(f), 2, 2)
		if f == 1 || f == 2 {
			wantTake(t, p.Field, tape, 1, 2, taken{l(2, 3), 3, api.OK})
			wantBlocks(t, p, tape, 1, blocked{lists(l(2, 3), l(4, 5)), 5, api.OK})
			wantRounds(t, p, tape, 1, 1, api.OK)
			continue
		}
		wantNoPlan(t, p)
		for _, tape := range tapes() {
			for _, at := range ats(len(tape)) {
				for _, many := range manys(len(tape)) {
					wantTake(t, p.Field, tape, at, many, taken{e: api.ErrArg})
				}
			}
		}
	}
}

// noPlaces are numbers of which none is a place of a tape of n numbers.
func noPlaces(n int) []int {
	return []int{-1, -2, -n - 1, -64, math.MinInt, math.MinInt + 1, math.MinInt + n, n + 1, n + 2, 2*n + 1, n + most, 1 << 32, 1<<32 + 1, math.MaxInt - n, math.MaxInt - 1, math.MaxInt}
}

// ErrArg goes ahead of ErrShort, also where no draw is asked for and where a sum would wrap.
func TestNoPlace(t *testing.T) {
	for _, tape := range tapes() {
		for _, at := range noPlaces(len(tape)) {
			for _, f := range sample.Fields() {
				for _, many := range append(manys(len(tape)), -at, len(tape)-at, math.MaxInt-at) {
					wantTake(t, f, tape, at, many, taken{e: api.ErrArg})
				}
			}
			for _, p := range append(drawings(), sample.Plans()...) {
				wantBlocks(t, p, tape, at, blocked{e: api.ErrArg})
				wantRounds(t, p, tape, at, 0, api.ErrArg)
			}
		}
	}
}

func TestNumbersBelowNought(t *testing.T) {
	for _, tape := range tapes() {
		for _, f := range sample.Fields() {
			for _, many := range []int{-1, -2, -64, -len(tape) - 1, -1 << 31, -1 << 32, math.MinInt, math.MinInt + 1} {
				for _, at := range ats(len(tape)) {
					wantTake(t, f, tape, at, many, taken{e: api.ErrArg})
				}
			}
		}
	}
}

// Each place of a tape, its end too, with more draws than are left: up to as many as an int can hold.
func TestShort(t *testing.T) {
	for _, f := range sample.Fields() {
		for _, tape := range tapes() {
			n := len(tape)
			for at := range n + 1 {
				for _, more := range []int{1, 2, n + 1, most, 1 << 31, 1 << 32, math.MaxInt - n} {
					wantTake(t, f, tape, at, n-at+more, taken{e: api.ErrShort})
				}
				// The place and the number are, as a sum, just past what an int holds.
				for _, many := range []int{math.MaxInt, math.MaxInt - at, math.MaxInt - at + min(at, 1)} {
					wantTake(t, f, tape, at, many, taken{e: api.ErrShort})
				}
			}
		}
	}
}

// The tape may end within the first pad, within another one and just ahead of one: nothing is told of those that were there.
func TestBlocksShort(t *testing.T) {
	for _, p := range drawings() {
		draws := p.T * p.Width
		tape := sample.Tape(4, draws+10)
		for left := range draws {
			if left > 9 && left%p.Width > 1 && left < draws-9 {
				continue
			}
			wantBlocks(t, p, tape[:left], 0, blocked{e: api.ErrShort})
			wantBlocks(t, p, tape[:10+left], 10, blocked{e: api.ErrShort})
			wantRounds(t, p, tape[:left], 0, 0, api.OK)
			wantRounds(t, p, tape[:10+left], 10, 0, api.OK)
		}
		wantBlocks(t, p, tape, 10, blocksBy(p, tape, 10))
	}
}

// All faults crossed.
func TestManyFaulty(t *testing.T) {
	for _, f := range append(sample.Fields(), sample.NoFields()...) {
		for _, tape := range tapes() {
			for _, at := range append(noPlaces(len(tape)), ats(len(tape))...) {
				for _, many := range manys(len(tape)) {
					wantTake(t, f, tape, at, many, takeBy(f, tape, at, many))
				}
				for _, pads := range []int{-1, 0, 1, 3, 63, 64, math.MaxInt} {
					for _, width := range []int{-1, 0, 1, 64, 65} {
						p := drawing(f, pads, width)
						want := blocksBy(p, tape, at)
						wantBlocks(t, p, tape, at, want)
						if want.e == api.ErrShort {
							wantRounds(t, p, tape, at, 0, api.OK)
						}
						if want.e == api.ErrArg {
							wantRounds(t, p, tape, at, 0, api.ErrArg)
						}
					}
				}
			}
		}
	}
}

// Room behind a tape's end is no tape.
func TestRoomIsNoTape(t *testing.T) {
	whole := sample.Tape(5, 40)
	for _, f := range sample.Fields() {
		for n := range 12 {
			tape := whole[:n]
			wantTake(t, f, tape, 0, n+1, taken{e: api.ErrShort})
			wantTake(t, f, tape, n, 1, taken{e: api.ErrShort})
			wantTake(t, f, tape, n+1, 0, taken{e: api.ErrArg})
			wantTake(t, f, tape, 0, n, takeBy(f, slices.Clone(tape), 0, n))
			p := drawing(f, 2, 6)
			wantBlocks(t, p, tape, 0, blocked{e: api.ErrShort})
			wantRounds(t, p, tape, 0, 0, api.OK)
			wantBlocks(t, p, whole[:n:n], n+1, blocked{e: api.ErrArg})
		}
	}
}
