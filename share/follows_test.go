package share

// P14.3: what follows.

import (
	"slices"
	"testing"

	"conclave/api"
	"conclave/field"
	"conclave/points"
	"conclave/sample"
)

// all are the shares of all workers of a plan.
func all(t *testing.T, p api.Plan, blocks [][]uint64) [][]uint64 {
	t.Helper()
	shares, e := All(p, blocks[:p.K], blocks[p.K:])
	if e != api.OK || len(shares) != p.N {
		t.Fatalf("All(%v) has %d shares, %d", p, len(shares), e)
	}
	return shares
}

func TestOpenOfSharesIsTheDataAndThePads(t *testing.T) {
	opened := 0
	everywhere(func(p api.Plan, blocks, data, pads [][]uint64) {
		shares := all(t, p, blocks)
		for _, who := range choices(p) {
			wantOpen(t, p, who, chosen(shares, who), data, pads, api.OK)
			opened++
		}
	})
	if opened < 3000 {
		t.Errorf("only %d were opened", opened)
	}
}

// Shares of Share serve as those of All do, and the order in which they are named is no matter, but that each has its own.
func TestOpenInEachOrder(t *testing.T) {
	for _, f := range sample.Fields() {
		p := sample.With(sample.Plan(5, 2, 2, 0, 0, 1), f, 3)
		blocks := sample.Blocks(f, 7, 4, 3)
		orders := 0
		for code := range 5 * 5 * 5 * 5 {
			who := []int{code % 5, code / 5 % 5, code / 25 % 5, code / 125}
			if twiceBy(who) {
				wantOpen(t, p, who, blocks, nil, nil, api.ErrTwice)
				continue
			}
			orders++
			var shares [][]uint64
			for _, i := range who {
				share, _ := Share(p, blocks[:2], blocks[2:], i)
				shares = append(shares, share)
			}
			wantOpen(t, p, who, shares, blocks[:2], blocks[2:], api.OK)
		}
		if orders != 120 {
			t.Errorf("%d orders", orders)
		}
	}
}

func TestAShareIsTheSumByRows(t *testing.T) {
	everywhere(func(p api.Plan, blocks, data, pads [][]uint64) {
		rows, e := points.Rows(p)
		if e != api.OK || len(rows) != p.N {
			t.Fatalf("Rows(%v) has %d rows, %d", p, len(rows), e)
		}
		var want [][]uint64
		for _, row := range rows {
			want = append(want, sumBy(p, blocks, row))
		}
		wantAll(t, p, data, pads, want, api.OK)
		for _, worker := range []int{0, p.N / 2, p.N - 1} {
			wantShare(t, p, data, pads, worker, want[worker], api.OK)
		}
	})
}

// sums are the sums of two lists of blocks, element by element.
func sums(f api.Field, a, b [][]uint64) [][]uint64 {
	l := make([][]uint64, len(a))
	for i := range a {
		l[i] = make([]uint64, len(a[i]))
		for place := range a[i] {
			l[i][place], _ = field.Add(f, a[i][place], b[i][place])
		}
	}
	return l
}

func TestSharesOfSumsAreSumsOfShares(t *testing.T) {
	everywhere(func(p api.Plan, blocks, _, _ [][]uint64) {
		n := p.K + p.T
		for _, other := range [][][]uint64{sample.Blocks(p.Field, 3*n, n, p.Width), sample.EdgeBlocks(p.Field, 0, p.K+p.T, p.Width)} {
			sum := sums(p.Field, blocks, other)
			want := sums(p.Field, all(t, p, blocks), all(t, p, other))
			wantAll(t, p, sum[:p.K], sum[p.K:], want, api.OK)
			for _, worker := range []int{0, p.N - 1} {
				wantShare(t, p, sum[:p.K], sum[p.K:], worker, want[worker], api.OK)
			}
		}
	})
}

// Data with pads of noughts, and pads with data of noughts, add up to the share of both.
func TestSharesOfDataAndOfPads(t *testing.T) {
	everywhere(func(p api.Plan, blocks, data, pads [][]uint64) {
		noughts := slices.Repeat(lists(make([]uint64, p.Width)), p.K+p.T)
		ofData := all(t, p, slices.Concat(data, noughts[p.K:]))
		ofPads := all(t, p, slices.Concat(noughts[:p.K], pads))
		wantAll(t, p, data, pads, sums(p.Field, ofData, ofPads), api.OK)
	})
}
