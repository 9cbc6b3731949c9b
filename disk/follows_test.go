package disk

// P22.4, and every call in many orders, one behind the other.

import (
	"bytes"
	"math"
	"slices"
	"testing"

	"conclave/api"
	"conclave/sample"
)

// next are the calls that are tried behind any others: at the ends and within, and past them.
func (p *pair) next() []call {
	many := len(p.by.list)
	return []call{
		written(numbered(p.by.count)),
		written(numbered(p.by.count)[1:]),
		trimmed(0),
		trimmed(many),
		trimmed(many - 1),
		trimmed(many + 1),
		fused(0),
		fused(1),
		fused(2),
		fused(-1),
		mended,
	}
}

// everyOrder tries all orders of so many calls, each on a copy, so that one order is not seen by the others.
func everyOrder(t *testing.T, p *pair, calls int) {
	if calls == 0 {
		return
	}
	for _, c := range p.next() {
		everyOrder(t, p.copied().do(t, c), calls-1)
	}
	p.stands(t, "calls of its copies")
}

func TestEveryOrder(t *testing.T) {
	everyOrder(t, made(t), 4)
	everyOrder(t, filled(t, 2), 4)
	everyOrder(t, filled(t, 1).do(t, fused(1)), 4)
	everyOrder(t, filled(t, 1).do(t, fused(0), trimmed(0)), 4)
}

// Without copies: the disk itself goes through each order.
func TestEveryOrderAnew(t *testing.T) {
	choices := len(made(t).next())
	for order := range choices * choices * choices * choices {
		p := filled(t, 1)
		for range 4 {
			p.do(t, p.next()[order%choices])
			order /= choices
		}
	}
}

// steered is a call without any order, the same one each time: mostly one that may be, its numbers at the ends often.
func (p *pair) steered(a uint64) call {
	many := len(p.by.list)
	switch a % 32 {
	case 0:
		return trimmed(many)
	case 1:
		return trimmed(many - 1)
	case 2:
		return trimmed(many + 1)
	case 3:
		return trimmed(-1)
	case 4, 5:
		return trimmed(int(a / 32 % uint64(many+1)))
	case 6:
		return written(numbered(int(a))[:a/32%size])
	case 7, 8:
		return fused(int(a / 32 % 9))
	case 9:
		return fused(math.MaxInt)
	case 10:
		return fused(-1)
	case 11, 12, 13:
		return mended
	}
	return written(numbered(int(a / 32 % 50)))
}

func TestLongOrders(t *testing.T) {
	for from := range 8 {
		p := filled(t, 10*from)
		answers := map[api.Errno]int{}
		for _, a := range sample.Scattered(api.Large, 3000+from)[from:] {
			c := p.steered(a)
			by := p.by
			answers[by.done(c)]++
			p.do(t, c)
		}
		if answers[0] < 1000 || answers[2] < 200 || answers[220] < 200 {
			t.Errorf("3000 calls answer %v", answers)
		}
	}
}

// At the limit, too: what is taken there is just what was trimmed.
func TestLongOrdersOfFullDisks(t *testing.T) {
	p := filled(t, mostBlocks-2)
	answers := map[api.Errno]int{}
	for i, a := range sample.Scattered(api.Large, 150) {
		c := p.steered(a)
		switch {
		case c.kind == trim && c.many < mostBlocks-3:
			c.many = mostBlocks - 3 + i%5
		case i%9 == 0:
			c = fused(i % 4)
		}
		by := p.by
		answers[by.done(c)]++
		p.do(t, c)
	}
	if answers[0] < 30 || answers[4] < 10 || answers[220] < 10 {
		t.Errorf("150 calls answer %v", answers)
	}
}

// tries are raw writes, of which some are refused for what they hand in.
func tries(from, many int) []call {
	var all []call
	p := plain{isThere: true}
	for _, a := range sample.Scattered(api.Large, many+from)[from:] {
		c := (&pair{by: p}).steered(a)
		if c.kind == fuse || c.kind == mend {
			c = written(numbered(int(a % 1000)))
		}
		p.done(c)
		all = append(all, c)
	}
	return all
}

// With a fuse of n the blocks are those of the first n raw writes alone, whatever is tried behind them.
func TestFuseLeavesTheFirstWrites(t *testing.T) {
	for from := range 6 {
		all := tries(from, 60)
		// What stands there behind so many raw writes, with no fuse.
		d := New()
		behind := [][][]byte{nil}
		for _, c := range all {
			if done(d, c) == api.OK {
				behind = append(behind, d.Blocks())
			}
		}
		for n := range len(behind) + 2 {
			d, first := New(), min(n, len(behind)-1)
			d.Fuse(n)
			for _, c := range all {
				done(d, c)
			}
			wantBlocks(t, d, behind[first]...)
			wantCount(t, d, first, n < len(behind)-1)
			if n > first {
				continue
			}
			for _, c := range slices.Concat(all, []call{fused(5)}, all) {
				done(d, c)
			}
			wantBlocks(t, d, behind[first]...)
		}
	}
}

// The same by hand: so many blocks, as the fuse has it.
func TestFuseOfEachNumberOfBlocks(t *testing.T) {
	var all [][]byte
	for i := range 20 {
		all = append(all, numbered(i))
	}
	for n := range 20 {
		d := New()
		d.Fuse(n)
		for i, b := range all {
			want := api.OK
			if i >= n {
				want = api.ErrCut
			}
			wantError(t, "Write of "+brief(b), d.Write(b), want)
			wantCount(t, d, min(i+1, n), i >= n)
		}
		wantBlocks(t, d, all[:n]...)
		wantError(t, "Trim", d.Trim(n), api.ErrCut)
		wantError(t, "Trim", d.Trim(0), api.ErrCut)
		wantBlocks(t, d, all[:n]...)
	}
}

// A refused call changes nothing but that the power may be cut: behind Mend and a fuse set anew the disk goes on as one at which it was not tried.
func TestRefusedCallsChangeNothing(t *testing.T) {
	for _, many := range []int{0, 1, 4, mostBlocks} {
		for _, p := range states(t, many) {
			for _, c := range p.next() {
				tried, other := p.d.Copy(), p.d.Copy()
				if done(tried, c) == api.OK {
					continue
				}
				for _, behind := range []call{mended, fused(2), trimmed(many / 2), written(of(1)), trimmed(0)} {
					done(tried, behind)
					done(other, behind)
					if !slices.EqualFunc(tried.Blocks(), other.Blocks(), bytes.Equal) {
						t.Errorf("%s, refused, and then %s: %s, not %s", c, behind, briefly(tried.Blocks()), briefly(other.Blocks()))
					}
					wantCount(t, tried, other.Count(), other.Cut())
				}
			}
		}
	}
}
