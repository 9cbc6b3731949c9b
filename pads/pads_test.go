package pads

// P19.1 and P19.2: what each call answers, and the chapter's examples.

import (
	"math"
	"math/big"
	"slices"
	"testing"

	"conclave/api"
	"conclave/plan"
	"conclave/sample"
)

const (
	small = 2013265921
	large = 18446744069414584321
	most  = 65536
)

func l(a ...uint64) []uint64 { return a }

func lists(a ...[]uint64) [][]uint64 { return a }

func same(a, b [][]uint64) bool { return slices.EqualFunc(a, b, slices.Equal[[]uint64]) }

// drawing is a plan of so many pads, so wide, of which nothing else matters.
func drawing(f api.Field, pads, width int) api.Plan {
	return sample.With(sample.Plan(4, 1, pads, 0, 0, 1), f, width)
}

// drawings are plans without pads, of one and of several, narrow and wide.
func drawings() []api.Plan {
	var plans []api.Plan
	for _, f := range sample.Fields() {
		for _, pads := range []int{0, 1, 2, 3, 7, 63} {
			for _, width := range []int{1, 2, 3, 5, 64} {
				plans = append(plans, drawing(f, pads, width))
			}
		}
	}
	return plans
}

// counted is a tape on which each number tells its place.
func counted(n int) []uint64 {
	tape := make([]uint64, n)
	for i := range tape {
		tape[i] = uint64(i)
	}
	return tape
}

// By the words of the chapter: number by number.

func restBy(f api.Field, number uint64) uint64 {
	var rest, prime big.Int
	rest.SetUint64(number)
	prime.SetUint64(sample.Prime(f))
	return rest.Mod(&rest, &prime).Uint64()
}

// taken is what Take tells.
type taken struct {
	l    []uint64
	next int
	e    api.Errno
}

func takeBy(f api.Field, tape []uint64, at, many int) taken {
	if sample.Prime(f) == 0 || at < 0 || at > len(tape) || many < 0 {
		return taken{e: api.ErrArg}
	}
	draws := taken{next: at}
	for range many {
		if draws.next == len(tape) {
			return taken{e: api.ErrShort}
		}
		draws.l = append(draws.l, restBy(f, tape[draws.next]))
		draws.next++
	}
	return draws
}

// blocked is what Blocks tells.
type blocked struct {
	pads [][]uint64
	next int
	e    api.Errno
}

func blocksBy(p api.Plan, tape []uint64, at int) blocked {
	if !plan.May(p) || at < 0 || at > len(tape) {
		return blocked{e: api.ErrArg}
	}
	blocks := blocked{next: at}
	for range p.T {
		var pad []uint64
		for range p.Width {
			if blocks.next == len(tape) {
				return blocked{e: api.ErrShort}
			}
			pad = append(pad, restBy(p.Field, tape[blocks.next]))
			blocks.next++
		}
		blocks.pads = append(blocks.pads, pad)
	}
	return blocks
}

// roundsBy counts the calls of Blocks, one behind the other, that have no error.
func roundsBy(t *testing.T, p api.Plan, tape []uint64, at int) (int, api.Errno) {
	t.Helper()
	if !plan.May(p) || at < 0 || at > len(tape) {
		return 0, api.ErrArg
	}
	for n := range most {
		_, next, e := Blocks(p, tape, at)
		if e != api.OK {
			return n, api.OK
		}
		if p.T > 0 && next <= at {
			t.Fatalf("Blocks(%v, %s, %d) gets no further: %d", p, sample.Brief(tape), at, next)
		}
		at = next
	}
	return most, api.OK
}

func wantTake(t *testing.T, f api.Field, tape []uint64, at, many int, want taken) {
	t.Helper()
	if got, next, e := Take(f, tape, at, many); !slices.Equal(got, want.l) || next != want.next || e != want.e {
		t.Errorf("Take(%d, %s, %d, %d) = %s, %d, %d, not %s, %d, %d", f, sample.Brief(tape), at, many, sample.Brief(got), next, e, sample.Brief(want.l), want.next, want.e)
	}
}

func wantBlocks(t *testing.T, p api.Plan, tape []uint64, at int, want blocked) {
	t.Helper()
	if got, next, e := Blocks(p, tape, at); !same(got, want.pads) || next != want.next || e != want.e {
		t.Errorf("Blocks(%v, %s, %d) = %d pads %s, %d, %d, not %d pads %s, %d, %d", p, sample.Brief(tape), at, len(got), sample.Brief(slices.Concat(got...)), next, e, len(want.pads), sample.Brief(slices.Concat(want.pads...)), want.next, want.e)
	}
}

func wantRounds(t *testing.T, p api.Plan, tape []uint64, at, rounds int, want api.Errno) {
	t.Helper()
	if n, e := Rounds(p, tape, at); n != rounds || e != want {
		t.Errorf("Rounds(%v, %s, %d) = %d, %d, not %d, %d", p, sample.Brief(tape), at, n, e, rounds, want)
	}
}

// P19.1: Take

// Below, at and above the prime, at its multiples, and the greatest numbers of 64 bits.
func TestTakeOfEachNumber(t *testing.T) {
	for _, c := range []struct {
		f            api.Field
		number, draw uint64
	}{
		{api.Small, 0, 0}, {api.Small, 1, 1}, {api.Small, small - 1, small - 1}, {api.Small, small, 0}, {api.Small, small + 1, 1},
		{api.Small, 2*small - 1, small - 1}, {api.Small, 2 * small, 0}, {api.Small, 2*small + 1, 1}, {api.Small, 3*small + 77, 77},
		{api.Small, 1 << 31, 134217727}, {api.Small, 1 << 32, 268435454}, {api.Small, small * small, 0}, {api.Small, small*small - 1, small - 1},
		{api.Small, math.MaxUint64, 1172168162}, {api.Small, math.MaxUint64 - 1172168162, 0}, {api.Small, math.MaxUint64 - 1172168163, small - 1},
		{api.Large, 0, 0}, {api.Large, 1, 1}, {api.Large, small, small}, {api.Large, 1 << 32, 1 << 32}, {api.Large, 1 << 63, 1 << 63},
		{api.Large, large - 1, large - 1}, {api.Large, large, 0}, {api.Large, large + 1, 1}, {api.Large, large + 1<<31, 1 << 31},
		{api.Large, math.MaxUint64 - 1, 1<<32 - 3}, {api.Large, math.MaxUint64, 1<<32 - 2},
	} {
		wantTake(t, c.f, l(c.number), 0, 1, taken{l(c.draw), 1, api.OK})
		wantTake(t, c.f, l(5, c.number, 6, 7), 1, 2, taken{l(c.draw, 6), 3, api.OK})
		wantTake(t, c.f, l(c.number, c.number), 0, 2, taken{l(c.draw, c.draw), 2, api.OK})
	}
	for _, f := range sample.Fields() {
		for _, number := range slices.Concat(sample.TapeEdges(), sample.Tape(3, 400), sample.Elements(f)) {
			wantTake(t, f, l(9, number, 9), 1, 1, taken{l(restBy(f, number)), 2, api.OK})
		}
	}
}

// manys are how many draws are asked of n that are left: none, some, all, one more, more than there can be, and below 0.
func manys(n int) []int {
	return []int{0, 1, 2, n / 2, n - 2, n - 1, n, n + 1, n + 2, 2*n + 1, most, 1 << 31, 1<<32 + 1, math.MaxInt - 1, math.MaxInt, -1, -2, -n, -n - 1, math.MinInt, math.MinInt + 1}
}

// ats are places of a tape of n numbers, its end too, and numbers that are no places.
func ats(n int) []int {
	return []int{0, 1, 2, n / 2, n - 1, n, n + 1, n + 2, 2*n + 1, 1 << 32, math.MaxInt - 1, math.MaxInt, -1, -2, -n, -n - 1, math.MinInt, math.MinInt + 1}
}

func TestTake(t *testing.T) {
	for _, f := range append(sample.Fields(), sample.NoFields()...) {
		for from, n := range []int{0, 1, 2, 3, 5, 8, 64, 1000} {
			tape := sample.Tape(from, n)
			for _, at := range ats(n) {
				for _, many := range append(manys(n), manys(n-at)...) {
					wantTake(t, f, tape, at, many, takeBy(f, tape, at, many))
				}
			}
		}
	}
}

// Each place with each number of draws, of all short tapes.
func TestTakeOfShortTapes(t *testing.T) {
	for _, f := range sample.Fields() {
		for n := range 13 {
			tape := sample.Tape(20+n, n)
			for at := range n + 1 {
				for many := range n - at + 1 {
					want := taken{next: at + many}
					for i := range many {
						want.l = append(want.l, restBy(f, tape[at+i]))
					}
					wantTake(t, f, tape, at, many, want)
				}
				for _, more := range []int{1, 2, 12} {
					wantTake(t, f, tape, at, n-at+more, taken{e: api.ErrShort})
				}
			}
		}
	}
}

func TestTakeOfNoNumbers(t *testing.T) {
	for _, f := range sample.Fields() {
		for _, tape := range lists(nil, l()) {
			wantTake(t, f, tape, 0, 0, taken{})
			for _, many := range []int{1, 2, math.MaxInt} {
				wantTake(t, f, tape, 0, many, taken{e: api.ErrShort})
			}
			for _, at := range []int{-1, 1, math.MinInt, math.MaxInt} {
				wantTake(t, f, tape, at, 0, taken{e: api.ErrArg})
			}
		}
	}
}

// A tape may be longer than a list of elements, and as many draws may be taken at once.
func TestTakeOfALongTape(t *testing.T) {
	for _, f := range sample.Fields() {
		for _, n := range []int{4096, 4097, 3 * most} {
			tape := sample.Tape(1, n)
			draws := takeBy(f, tape, 0, n).l
			wantTake(t, f, tape, 0, n, taken{draws, n, api.OK})
			wantTake(t, f, tape, 1, n-1, taken{draws[1:], n, api.OK})
			wantTake(t, f, tape, n-1, 1, taken{draws[n-1:], n, api.OK})
			wantTake(t, f, tape, n/2, n/4, taken{draws[n/2 : n/2+n/4], n/2 + n/4, api.OK})
			wantTake(t, f, tape, n, 0, taken{next: n})
			wantTake(t, f, tape, n, 1, taken{e: api.ErrShort})
			wantTake(t, f, tape, 1, n, taken{e: api.ErrShort})
		}
	}
}

// P19.1: Blocks

func TestBlocksByHand(t *testing.T) {
	for _, f := range sample.Fields() {
		p := sample.Prime(f)
		tape := l(p, 2, p-1, p+1, 5, 6, 7)
		for _, c := range []struct {
			pads, width, at int
			want            blocked
		}{
			{1, 1, 0, blocked{lists(l(0)), 1, api.OK}},
			{1, 1, 6, blocked{lists(l(7)), 7, api.OK}},
			{1, 1, 7, blocked{e: api.ErrShort}},
			{1, 3, 1, blocked{lists(l(2, p-1, 1)), 4, api.OK}},
			{3, 1, 1, blocked{lists(l(2), l(p-1), l(1)), 4, api.OK}},
			{2, 3, 0, blocked{lists(l(0, 2, p-1), l(1, 5, 6)), 6, api.OK}},
			{3, 2, 0, blocked{lists(l(0, 2), l(p-1, 1), l(5, 6)), 6, api.OK}},
			{3, 2, 1, blocked{lists(l(2, p-1), l(1, 5), l(6, 7)), 7, api.OK}},
			{3, 2, 2, blocked{e: api.ErrShort}},
			{1, 7, 0, blocked{lists(l(0, 2, p-1, 1, 5, 6, 7)), 7, api.OK}},
			{1, 8, 0, blocked{e: api.ErrShort}},
			{7, 1, 0, blocked{lists(l(0), l(2), l(p-1), l(1), l(5), l(6), l(7)), 7, api.OK}},
			{8, 1, 0, blocked{e: api.ErrShort}},
			{63, 64, 0, blocked{e: api.ErrShort}},
			{0, 1, 0, blocked{nil, 0, api.OK}},
			{0, 64, 3, blocked{nil, 3, api.OK}},
			{0, 2, 7, blocked{nil, 7, api.OK}},
			{0, 2, 8, blocked{e: api.ErrArg}},
			{0, 2, -1, blocked{e: api.ErrArg}},
		} {
			wantBlocks(t, drawing(f, c.pads, c.width), tape, c.at, c.want)
		}
	}
}

// tapesFor are tapes with no number, and about as many as one, two and three rounds of a plan take.
func tapesFor(p api.Plan) [][]uint64 {
	draws := p.T * p.Width
	all := lists(nil)
	for i, n := range []int{1, draws - 1, draws, draws + 1, 2*draws - 1, 2 * draws, 3*draws + draws/2} {
		if n > 0 {
			all = append(all, sample.Tape(i, n))
		}
	}
	return all
}

// Where just one round's draws are left, one more, one fewer, and where none are.
func placesFor(p api.Plan, tape []uint64) []int {
	n, draws := len(tape), p.T*p.Width
	return append(ats(n), n-draws-1, n-draws, n-draws+1, n-2*draws, draws)
}

func TestBlocks(t *testing.T) {
	for _, p := range append(drawings(), sample.Plans()...) {
		for _, tape := range tapesFor(p) {
			for _, at := range placesFor(p, tape) {
				wantBlocks(t, p, tape, at, blocksBy(p, tape, at))
			}
		}
	}
}

// wantPads holds each pad against a call of Take, behind the pad ahead of it; where Take has an error on the way, that is all.
func wantPads(t *testing.T, p api.Plan, tape []uint64, at int) {
	t.Helper()
	want := blocked{next: at}
	for range p.T {
		pad, next, e := Take(p.Field, tape, want.next, p.Width)
		if e != api.OK {
			want = blocked{e: e}
			break
		}
		want.pads, want.next = append(want.pads, pad), next
	}
	wantBlocks(t, p, tape, at, want)
}

func TestBlocksAgainstTake(t *testing.T) {
	for _, p := range append(drawings(), sample.Plans()...) {
		for _, tape := range tapesFor(p) {
			for at := range min(len(tape), 2*p.T*p.Width) + 1 {
				if at < 9 || at%37 == 0 || len(tape)-at < 9 {
					wantPads(t, p, tape, at)
				}
			}
		}
	}
}

// Nothing of a plan but its field, T and Width tells anything, as long as it may be; whether it is accepted does not.
func TestBlocksOfOtherPlans(t *testing.T) {
	tape := sample.Tape(2, 300)
	refused := 0
	for _, f := range sample.Fields() {
		for _, c := range []struct{ pads, width int }{{0, 4}, {1, 3}, {4, 1}, {31, 9}} {
			alone := drawing(f, c.pads, c.width)
			want, rounds := blocksBy(alone, tape, 5), 65536
			if c.pads > 0 {
				rounds = 295 / (c.pads * c.width)
			}
			for _, p := range []api.Plan{sample.Plan(1, 1, c.pads, 0, 0, 0), sample.Plan(64, 33, c.pads, 64, 64, 1024), sample.Plan(1, 2, c.pads, 64, 0, 7), sample.Plan(64, 1, c.pads, 0, 31, 0)} {
				p = sample.With(p, f, c.width)
				wantBlocks(t, p, tape, 5, want)
				wantRounds(t, p, tape, 5, rounds, api.OK)
				if plan.Accept(p) != api.OK {
					refused++
				}
			}
		}
	}
	if refused < 8 {
		t.Errorf("only %d plans are not accepted", refused)
	}
}

// P19.2

func TestRoundsByHand(t *testing.T) {
	for _, f := range sample.Fields() {
		for _, c := range []struct{ pads, width, numbers, at, rounds int }{
			{1, 1, 0, 0, 0}, {1, 1, 1, 0, 1}, {1, 1, 1, 1, 0}, {1, 1, 9, 0, 9}, {1, 1, 9, 4, 5}, {1, 1, 9, 9, 0},
			{2, 3, 0, 0, 0}, {2, 3, 5, 0, 0}, {2, 3, 6, 0, 1}, {2, 3, 7, 0, 1}, {2, 3, 7, 1, 1}, {2, 3, 7, 2, 0}, {2, 3, 11, 0, 1}, {2, 3, 12, 0, 2}, {2, 3, 20, 0, 3}, {2, 3, 20, 2, 3}, {2, 3, 20, 3, 2}, {2, 3, 20, 20, 0},
			{1, 64, 63, 0, 0}, {1, 64, 64, 0, 1}, {1, 64, 65, 1, 1}, {1, 64, 65, 2, 0}, {63, 1, 62, 0, 0}, {63, 1, 63, 0, 1}, {63, 1, 126, 0, 2}, {63, 1, 126, 1, 1},
			{63, 64, 4031, 0, 0}, {63, 64, 4032, 0, 1}, {63, 64, 4033, 1, 1}, {63, 64, 4033, 2, 0}, {63, 64, 40319, 0, 9}, {63, 64, 40320, 0, 10}, {63, 64, 40320, 40320, 0},
			// A round that takes no draws, wherever.
			{0, 1, 0, 0, most}, {0, 64, 0, 0, most}, {0, 1, 5, 0, most}, {0, 3, 5, 4, most}, {0, 3, 5, 5, most},
		} {
			wantRounds(t, drawing(f, c.pads, c.width), make([]uint64, c.numbers), c.at, c.rounds, api.OK)
		}
	}
}

// Just as many rounds as there may be, one fewer, one more, far more; a number fewer, and one more.
func TestRoundsAtTheLimit(t *testing.T) {
	for _, f := range sample.Fields() {
		for _, c := range []struct{ pads, width int }{{1, 1}, {2, 1}, {1, 3}, {3, 2}, {5, 7}} {
			p, draws := drawing(f, c.pads, c.width), c.pads*c.width
			tape := make([]uint64, 4*most*draws)
			for _, start := range []int{0, 1, draws} {
				for _, rounds := range []int{most - 1, most, most + 1, 2 * most, 3 * most} {
					end := start + rounds*draws
					wantRounds(t, p, tape[:end-1:end-1], start, min(rounds-1, most), api.OK)
					wantRounds(t, p, tape[:end:end], start, min(rounds, most), api.OK)
					wantRounds(t, p, tape[:end+1], start, min((rounds*draws+1)/draws, most), api.OK)
				}
			}
			wantRounds(t, p, tape, 0, most, api.OK)
			wantRounds(t, p, tape, 3*most*draws, most, api.OK)
			wantRounds(t, p, tape, 3*most*draws+1, most-1, api.OK)
			wantRounds(t, p, tape, len(tape), 0, api.OK)
		}
	}
}

func TestRoundsAgainstBlocks(t *testing.T) {
	for _, p := range append(drawings(), sample.Plans()...) {
		for i, tape := range tapesFor(p) {
			places := placesFor(p, tape)
			if p.T == 0 {
				// All of 65536 rounds are gone through there.
				places = places[i%len(places):][:1]
			}
			for _, at := range places {
				n, e := roundsBy(t, p, tape, at)
				wantRounds(t, p, tape, at, n, e)
			}
		}
	}
}

// Of each length and each place, and at the greatest number of rounds.
func TestRoundsAgainstBlocksOfEachLength(t *testing.T) {
	for _, f := range sample.Fields() {
		for _, p := range []api.Plan{drawing(f, 1, 1), drawing(f, 1, 2), drawing(f, 2, 1), drawing(f, 3, 4)} {
			for n := range 40 {
				tape := sample.Tape(n, n)
				for at := range n + 1 {
					rounds, e := roundsBy(t, p, tape, at)
					wantRounds(t, p, tape, at, rounds, e)
				}
			}
			draws := p.T * p.Width
			for _, n := range []int{most*draws - 1, most * draws, most*draws + draws, 2 * most * draws} {
				tape := make([]uint64, n)
				rounds, e := roundsBy(t, p, tape, 0)
				wantRounds(t, p, tape, 0, rounds, e)
			}
		}
	}
}

// What numbers stand on the tape does not matter there.
func TestRoundsOfAnyNumbers(t *testing.T) {
	for _, p := range drawings() {
		for _, tape := range tapesFor(p) {
			n, e := Rounds(p, tape, 0)
			wantRounds(t, p, make([]uint64, len(tape)), 0, n, e)
			wantRounds(t, p, slices.Repeat(l(math.MaxUint64), len(tape)), 0, n, e)
		}
	}
}

// The examples of the chapter.
func TestExamples(t *testing.T) {
	wantTake(t, api.Small, l(7, 2013265922, 9), 1, 2, taken{l(1, 9), 3, api.OK})
	wantTake(t, api.Small, l(7), 1, 1, taken{e: api.ErrShort})
	wantTake(t, api.Small, l(7), 2, 0, taken{e: api.ErrArg})
	wantTake(t, api.Large, nil, 0, 0, taken{})
	p := api.Plan{Field: api.Small, N: 4, K: 2, T: 2, Degree: 1, Width: 2}
	wantBlocks(t, p, l(1, 2, 3, 4, 5), 0, blocked{lists(l(1, 2), l(3, 4)), 4, api.OK})
	wantRounds(t, p, l(1, 2, 3, 4, 5), 0, 1, api.OK)
}
