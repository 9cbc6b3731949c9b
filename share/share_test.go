package share

import (
	"slices"
	"testing"

	"conclave/api"
	"conclave/field"
	"conclave/interp"
	"conclave/sample"
)

func l(a ...uint64) []uint64 { return a }

func lists(l ...[]uint64) [][]uint64 { return l }

// single are blocks of one element each.
func single(a ...uint64) (blocks [][]uint64) {
	for _, x := range a {
		blocks = append(blocks, l(x))
	}
	return blocks
}

func same(a, b [][]uint64) bool { return slices.EqualFunc(a, b, slices.Equal[[]uint64]) }

func wantPolys(t *testing.T, p api.Plan, data, pads, answer [][]uint64, e api.Errno) {
	t.Helper()
	if polys, got := Polys(p, data, pads); !same(polys, answer) || got != e {
		t.Errorf("Polys(%v, %v, %v) = %v, %d, not %v, %d", p, data, pads, polys, got, answer, e)
	}
}

func wantShare(t *testing.T, p api.Plan, data, pads [][]uint64, worker int, answer []uint64, e api.Errno) {
	t.Helper()
	if share, got := Share(p, data, pads, worker); !slices.Equal(share, answer) || got != e {
		t.Errorf("Share(%v, %v, %v, %d) = %v, %d, not %v, %d", p, data, pads, worker, share, got, answer, e)
	}
}

func wantAll(t *testing.T, p api.Plan, data, pads, answer [][]uint64, e api.Errno) {
	t.Helper()
	if shares, got := All(p, data, pads); !same(shares, answer) || got != e {
		t.Errorf("All(%v, %v, %v) = %v, %d, not %v, %d", p, data, pads, shares, got, answer, e)
	}
}

func wantOpen(t *testing.T, p api.Plan, who []int, shares, data, pads [][]uint64, e api.Errno) {
	t.Helper()
	if gotData, gotPads, got := Open(p, who, shares); !same(gotData, data) || !same(gotPads, pads) || got != e {
		t.Errorf("Open(%v, %v, %v) = %v, %v, %d, not %v, %v, %d", p, who, shares, gotData, gotPads, got, data, pads, e)
	}
}

// The reference: by the words of the chapters, from the fields on.

func innerBy(p api.Plan) (xs []uint64) {
	for i := 0; i < p.K+p.T; i++ {
		xs = append(xs, uint64(i))
	}
	return xs
}

func workersBy(p api.Plan, who []int) (xs []uint64) {
	for _, i := range who {
		xs = append(xs, uint64(p.K+p.T+i))
	}
	return xs
}

func valueBy(f api.Field, polynomial []uint64, x uint64) uint64 {
	value, power := uint64(0), uint64(1)
	for _, c := range polynomial {
		part, _ := field.Mul(f, c, power)
		value, _ = field.Add(f, value, part)
		power, _ = field.Mul(f, power, x)
	}
	return value
}

// without is the product of x's differences to all of xs but the one at the place i.
func without(f api.Field, xs []uint64, i int, x uint64) uint64 {
	product := uint64(1)
	for j, other := range xs {
		if j != i {
			d, _ := field.Sub(f, x, other)
			product, _ = field.Mul(f, product, d)
		}
	}
	return product
}

// rowBy has for each of xs the product that is 0 at all others, by what it is there itself.
func rowBy(f api.Field, xs []uint64, x uint64) (row []uint64) {
	for i, place := range xs {
		b, _ := field.Div(f, without(f, xs, i, x), without(f, xs, i, place))
		row = append(row, b)
	}
	return row
}

// sumBy is, place by place, the sum of the blocks, each times its entry in the row.
func sumBy(p api.Plan, blocks [][]uint64, row []uint64) []uint64 {
	sum := make([]uint64, p.Width)
	for i, block := range blocks {
		for place, a := range block {
			part, _ := field.Mul(p.Field, a, row[i])
			sum[place], _ = field.Add(p.Field, sum[place], part)
		}
	}
	return sum
}

// movedBy are the blocks at zs, where those handed in are at xs.
func movedBy(p api.Plan, blocks [][]uint64, xs, zs []uint64) (l [][]uint64) {
	for _, z := range zs {
		l = append(l, sumBy(p, blocks, rowBy(p.Field, xs, z)))
	}
	return l
}

// placeOf are the elements that all blocks have at a place.
func placeOf(blocks [][]uint64, place int) (ys []uint64) {
	for _, block := range blocks {
		ys = append(ys, block[place])
	}
	return ys
}

// grounds are plans: all small ones, some of all sizes, and the sample's, of which many have more inner points than workers, and many are not accepted.
func grounds() []api.Plan {
	plans := sample.Plans()
	for _, f := range sample.Fields() {
		for n := 1; n <= 6; n++ {
			for k := 1; k <= 4; k++ {
				for pads := range 4 {
					plans = append(plans, sample.With(sample.Plan(n, k, pads, 0, 0, 1), f, 1+(n+k+pads)%3))
				}
			}
		}
		for _, n := range []int{1, 30, 64} {
			for _, k := range []int{1, 10, 31, 63} {
				for _, pads := range []int{0, 1, 8, 32} {
					if k+pads <= 64 {
						plans = append(plans, sample.With(sample.Plan(n, k, pads, 2, 3, 5), f, 5))
					}
				}
			}
		}
	}
	return plans
}

// low are blocks whose place w has a polynomial of w elements, w counted round from 0 to as many as there are blocks.
func low(p api.Plan) [][]uint64 {
	n := p.K + p.T
	blocks := make([][]uint64, n)
	for place := range p.Width {
		polynomial := sample.Run(p.Field, place, place%(n+1))
		for i := range blocks {
			blocks[i] = append(blocks[i], valueBy(p.Field, polynomial, uint64(i)))
		}
	}
	return blocks
}

// fillings are data blocks and, behind them, pads: without any order, 0 alone, one less than the prime alone, of low polynomials, of edges, and with one block of ones.
func fillings(p api.Plan) [][][]uint64 {
	n := p.K + p.T
	one := slices.Repeat(lists(make([]uint64, p.Width)), n)
	one[n/2] = slices.Repeat(l(1), p.Width)
	return [][][]uint64{
		sample.Blocks(p.Field, n+p.N, n, p.Width),
		slices.Repeat(lists(make([]uint64, p.Width)), n),
		slices.Repeat(lists(slices.Repeat(l(sample.Prime(p.Field)-1), p.Width)), n),
		low(p), sample.EdgeBlocks(p.Field, 0, p.K+p.T, p.Width), one,
	}
}

// everywhere does it with all plans, and all that they may be filled with; with the largest plans these take turns.
func everywhere(do func(p api.Plan, blocks, data, pads [][]uint64)) {
	for i, p := range grounds() {
		filled := fillings(p)
		if (p.K+p.T)*max(p.N, p.K+p.T)*p.Width > 10000 {
			i %= len(filled)
			filled = filled[i : i+1]
		}
		for _, blocks := range filled {
			do(p, blocks, blocks[:p.K], blocks[p.K:])
		}
	}
}

// P14.1

func TestPolys(t *testing.T) {
	everywhere(func(p api.Plan, blocks, data, pads [][]uint64) {
		polys, e := Polys(p, data, pads)
		if e != api.OK || len(polys) != p.Width {
			t.Fatalf("Polys(%v) has %d polynomials, %d", p, len(polys), e)
		}
		for place, polynomial := range polys {
			n := len(polynomial)
			if n > p.K+p.T || n > 0 && polynomial[n-1] == 0 {
				t.Errorf("Polys(%v) has %s at the place %d", p, sample.Brief(polynomial), place)
			}
			for i, block := range blocks {
				if y := valueBy(p.Field, polynomial, uint64(i)); y != block[place] {
					t.Errorf("Polys(%v) has %d at the point %d, not %d, in the place %d", p, y, i, block[place], place)
				}
			}
		}
	})
}

func TestPolysAreThoseOfThrough(t *testing.T) {
	everywhere(func(p api.Plan, blocks, data, pads [][]uint64) {
		var want [][]uint64
		for place := range p.Width {
			polynomial, e := interp.Through(p.Field, innerBy(p), placeOf(blocks, place))
			if e != api.OK {
				t.Fatalf("Through(%v, the place %d): %d", p, place, e)
			}
			want = append(want, polynomial)
		}
		wantPolys(t, p, data, pads, want, api.OK)
	})
}

// Polynomials of all lengths, the polynomial 0 among them, come out as they were.
func TestPolysAreTrimmed(t *testing.T) {
	for _, f := range sample.Fields() {
		for _, n := range []int{1, 2, 3, 8, 62, 63, 64} {
			for _, k := range []int{1, n/2 + 1, n} {
				p := sample.With(sample.Plan(3, k, n-k, 0, 0, 1), f, 64)
				var want [][]uint64
				for place := range p.Width {
					want = append(want, sample.Run(f, place, place%(n+1)))
				}
				blocks := low(p)
				wantPolys(t, p, blocks[:k], blocks[k:], want, api.OK)
			}
		}
	}
}

func TestShares(t *testing.T) {
	everywhere(func(p api.Plan, blocks, data, pads [][]uint64) {
		want := movedBy(p, blocks, innerBy(p), workersBy(p, sample.Inputs(p.N)))
		wantAll(t, p, data, pads, want, api.OK)
		for i, share := range want {
			wantShare(t, p, data, pads, i, share, api.OK)
		}
	})
}

func TestSharesAreValuesOfPolys(t *testing.T) {
	everywhere(func(p api.Plan, blocks, data, pads [][]uint64) {
		polys, e := Polys(p, data, pads)
		all, e2 := All(p, data, pads)
		if e != api.OK || e2 != api.OK || len(all) != p.N {
			t.Fatalf("%v has %d shares, %d, %d", p, len(all), e, e2)
		}
		for i, x := range workersBy(p, sample.Inputs(p.N)) {
			var want []uint64
			for _, polynomial := range polys {
				want = append(want, valueBy(p.Field, polynomial, x))
			}
			if !slices.Equal(all[i], want) {
				t.Errorf("All(%v) has %s for the worker %d, not %s", p, sample.Brief(all[i]), i, sample.Brief(want))
			}
			wantShare(t, p, data, pads, i, all[i], api.OK)
		}
	})
}

func TestSharesByHand(t *testing.T) {
	for _, f := range sample.Fields() {
		prime := sample.Prime(f)
		for _, c := range []struct {
			n, k, t, width            int
			data, pads, polys, shares [][]uint64
		}{
			{4, 2, 1, 1, single(5, 7), single(9), lists(l(5, 2)), single(11, 13, 15, 17)},
			{4, 2, 1, 1, single(0, 1), single(4), lists(l(0, 0, 1)), single(9, 16, 25, 36)},
			{4, 1, 2, 1, single(0), single(1, 4), lists(l(0, 0, 1)), single(9, 16, 25, 36)},
			{4, 2, 1, 2, lists(l(5, 0), l(7, 1)), lists(l(9, 4)), lists(l(5, 2), l(0, 0, 1)), lists(l(11, 9), l(13, 16), l(15, 25), l(17, 36))},
			// The order of blocks, and of elements within them.
			{2, 2, 1, 2, lists(l(7, 4), l(5, 1)), lists(l(3, 0)), lists(l(7, prime-2), l(4, prime-4, 1)), lists(l(1, 1), l(prime-1, 4))},
			// No pad.
			{3, 2, 0, 1, single(5, 7), nil, lists(l(5, 2)), single(9, 11, 13)},
			// K + T of 1: the share is the block.
			{3, 1, 0, 1, single(6), nil, lists(l(6)), single(6, 6, 6)},
			{2, 1, 0, 3, lists(l(6, 0, prime-1)), nil, lists(l(6), nil, l(prime-1)), lists(l(6, 0, prime-1), l(6, 0, prime-1))},
			// The polynomial 0, and another constant.
			{2, 2, 1, 1, single(0, 0), single(0), lists(nil), single(0, 0)},
			{2, 1, 3, 1, single(prime - 1), single(prime-1, prime-1, prime-1), lists(l(prime - 1)), single(prime-1, prime-1)},
			// More inner points than workers.
			{1, 2, 2, 1, single(0, 1), single(8, 27), lists(l(0, 0, 0, 1)), single(64)},
			{1, 1, 1, 1, single(0), single(prime - 1), lists(l(0, prime-1)), single(prime - 2)},
			// Past the prime.
			{3, 1, 1, 1, single(prime - 1), single(0), lists(l(prime-1, 1)), single(1, 2, 3)},
			{2, 2, 0, 1, single(prime-2, prime-1), nil, lists(l(prime-2, 1)), single(0, 1)},
		} {
			p := sample.With(sample.Plan(c.n, c.k, c.t, 0, 0, 1), f, c.width)
			wantPolys(t, p, c.data, c.pads, c.polys, api.OK)
			wantAll(t, p, c.data, c.pads, c.shares, api.OK)
			for i, share := range c.shares {
				wantShare(t, p, c.data, c.pads, i, share, api.OK)
			}
		}
	}
}

// term is c x^e, which no prime cuts for as low numbers as stand here.
func term(c, e, x int) uint64 {
	for range e {
		c *= x
	}
	return uint64(c)
}

// terms are the blocks at the points from first on, n of them, of the polynomials (w + 1) x^(w mod 4) for each place w.
func terms(first, n, width int) [][]uint64 {
	blocks := make([][]uint64, n)
	for i := range blocks {
		for place := range width {
			blocks[i] = append(blocks[i], term(place+1, place%4, first+i))
		}
	}
	return blocks
}

// As many of all as there may be, and as few, by whole numbers alone.
func TestSharesAtTheLimits(t *testing.T) {
	for _, f := range sample.Fields() {
		for _, c := range []struct{ n, k, t int }{{64, 64, 0}, {64, 1, 63}, {64, 32, 32}, {64, 63, 1}, {1, 64, 0}, {1, 1, 63}, {64, 4, 0}, {64, 1, 3}, {1, 2, 2}} {
			for _, width := range []int{1, 64} {
				p := sample.With(sample.Plan(c.n, c.k, c.t, 0, 0, 1), f, width)
				blocks, shares := terms(0, c.k+c.t, width), terms(c.k+c.t, c.n, width)
				data, pads := blocks[:c.k], blocks[c.k:]
				var polys [][]uint64
				for place := range width {
					polys = append(polys, append(make([]uint64, place%4), uint64(place+1)))
				}
				wantPolys(t, p, data, pads, polys, api.OK)
				wantAll(t, p, data, pads, shares, api.OK)
				wantShare(t, p, data, pads, 0, shares[0], api.OK)
				wantShare(t, p, data, pads, c.n-1, shares[c.n-1], api.OK)
				if who := sample.Mixed(1, c.n); c.n >= c.k+c.t {
					who = who[:c.k+c.t]
					wantOpen(t, p, who, chosen(shares, who), data, pads, api.OK)
				}
			}
		}
	}
}

// Whether a plan is accepted is not asked, nor whatever else it says beside its field, N, K, T and Width.
func TestNothingElseCounts(t *testing.T) {
	for _, f := range sample.Fields() {
		for _, silent := range []int{0, 1, 64} {
			for _, faulty := range []int{0, 2, 64} {
				for _, degree := range []int{0, 1, 3, 1024} {
					p := sample.With(sample.Plan(4, 2, 1, silent, faulty, degree), f, 1)
					wantPolys(t, p, single(5, 7), single(9), lists(l(5, 2)), api.OK)
					wantShare(t, p, single(5, 7), single(9), 3, l(17), api.OK)
					wantAll(t, p, single(5, 7), single(9), single(11, 13, 15, 17), api.OK)
					wantOpen(t, p, []int{3, 0, 1}, single(17, 11, 13), single(5, 7), single(9), api.OK)
				}
			}
		}
	}
}

// P14.2

// chosen are the shares of those who are named.
func chosen(shares [][]uint64, who []int) (l [][]uint64) {
	for _, i := range who {
		l = append(l, shares[i])
	}
	return l
}

// choices are lists of K + T unlike workers of a plan, in all kinds of orders: each choice, where these are few. There are none, if it has fewer workers.
func choices(p api.Plan) (whos [][]int) {
	n := p.K + p.T
	switch {
	case p.N < n:
		return nil
	case p.N > 6:
		return sample.SomeChoices(p.N, n)
	}
	for i, rising := range sample.EveryChoice(p.N, n) {
		falling := slices.Clone(rising)
		slices.Reverse(falling)
		var mixed []int
		for _, at := range sample.Mixed(i, n) {
			mixed = append(mixed, rising[at])
		}
		whos = append(whos, rising, falling, mixed)
	}
	return whos
}

// Of any shares, also such as nobody made of data and pads.
func TestOpen(t *testing.T) {
	opened := 0
	everywhere(func(p api.Plan, shares, _, _ [][]uint64) {
		whos := choices(p)
		for _, who := range whos[:min(len(whos), 3)] {
			blocks := movedBy(p, shares, workersBy(p, who), innerBy(p))
			wantOpen(t, p, who, shares, blocks[:p.K], blocks[p.K:], api.OK)
			opened++
		}
	})
	if opened < 1000 {
		t.Errorf("only %d were opened", opened)
	}
}

// With what was opened each worker of who has its share.
func TestOpenedBlocksHaveTheShares(t *testing.T) {
	everywhere(func(p api.Plan, shares, _, _ [][]uint64) {
		whos := choices(p)
		for _, who := range whos[max(len(whos)-3, 0):] {
			data, pads, e := Open(p, who, shares)
			if e != api.OK {
				t.Fatalf("Open(%v, %v): %d", p, who, e)
			}
			if all, e := All(p, data, pads); e != api.OK || !same(chosen(all, who), shares) {
				t.Errorf("Open(%v, %v): with what was opened they have other shares, %d", p, who, e)
			}
		}
	})
}

func TestOpenByHand(t *testing.T) {
	for _, f := range sample.Fields() {
		prime := sample.Prime(f)
		for _, c := range []struct {
			n, k, t, width     int
			who                []int
			shares, data, pads [][]uint64
		}{
			{4, 2, 1, 1, []int{0, 1, 2}, single(11, 13, 15), single(5, 7), single(9)},
			{4, 2, 1, 1, []int{3, 0, 1}, single(17, 11, 13), single(5, 7), single(9)},
			{4, 2, 1, 1, []int{2, 1, 3}, single(25, 16, 36), single(0, 1), single(4)},
			{4, 1, 2, 1, []int{2, 1, 3}, single(25, 16, 36), single(0), single(1, 4)},
			{4, 2, 1, 2, []int{1, 3, 0}, lists(l(13, 16), l(17, 36), l(11, 9)), lists(l(5, 0), l(7, 1)), lists(l(9, 4))},
			{3, 2, 0, 1, []int{2, 0}, single(13, 9), single(5, 7), nil},
			{3, 1, 0, 1, []int{2}, single(6), single(6), nil},
			{1, 1, 0, 2, []int{0}, lists(l(0, prime-1)), lists(l(0, prime-1)), nil},
			{3, 2, 1, 1, []int{1, 2, 0}, single(0, 0, 0), single(0, 0), single(0)},
			{3, 1, 1, 1, []int{2, 1}, single(3, 2), single(prime - 1), single(0)},
			{64, 1, 1, 1, []int{63, 0}, single(65, 2), single(0), single(1)},
		} {
			p := sample.With(sample.Plan(c.n, c.k, c.t, 0, 0, 1), f, c.width)
			wantOpen(t, p, c.who, c.shares, c.data, c.pads, api.OK)
		}
	}
}

// The examples of the chapter.

func TestExamples(t *testing.T) {
	p := sample.Plan(4, 2, 1, 0, 0, 1)
	wantPolys(t, p, single(5, 7), single(9), lists(l(5, 2)), api.OK)
	wantShare(t, p, single(5, 7), single(9), 0, l(11), api.OK)
	wantAll(t, p, single(5, 7), single(9), single(11, 13, 15, 17), api.OK)
	wantShare(t, p, single(5, 7), single(9), 4, nil, api.ErrArg)
	wantShare(t, p, single(5), single(9), 0, nil, api.ErrShape)
	wantShare(t, p, lists(l(5), l(7, 8)), single(9), 0, nil, api.ErrShape)
	wantOpen(t, p, []int{3, 0, 1}, single(17, 11, 13), single(5, 7), single(9), api.OK)
	wantOpen(t, p, []int{0, 0, 1}, single(1, 1, 1), nil, nil, api.ErrTwice)
	wantOpen(t, p, []int{0, 1}, single(1, 1), nil, nil, api.ErrShape)
}
