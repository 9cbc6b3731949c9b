package disk

// The errors, which of them comes first, and that a call which answers one changes nothing but that the power may be cut.

import (
	"fmt"
	"math"
	"slices"
	"testing"

	"conclave/api"
)

// near are the numbers next to none and to so many, and as far from them as an int can be.
func near(many int) []int {
	return []int{math.MinInt, math.MinInt + 1, -1 << 32, -many, -2, -1, 0, 1, many - 1, many, many + 1, 2*many + 1, 255, 256, mostBlocks - 1, mostBlocks, mostBlocks + 1, 1 << 31, 1 << 32, 1<<32 + 1, math.MaxInt - 1, math.MaxInt}
}

// noBlocks are lists of bytes that are no blocks.
func noBlocks() [][]byte {
	l := [][]byte{nil, {}, make([]byte, 0, size), make([]byte, size-1, size)}
	for many := range 3 * size {
		if many != size {
			l = append(l, slices.Repeat([]byte{3}, many))
		}
	}
	return append(l, make([]byte, size+256), make([]byte, 1<<20))
}

// states are disks with so many blocks, as any calls may leave them: the fuse none, 0, some; the power cut or not.
func states(t *testing.T, many int) []*pair {
	t.Helper()
	whole := filled(t, many)
	var all []*pair
	for _, ahead := range [][]call{
		nil,
		{fused(0)},
		{fused(1)},
		{fused(5)},
		{fused(math.MaxInt)},
		{fused(1), trimmed(many)},
		{fused(0), trimmed(many)},
		{fused(0), trimmed(many), fused(0)},
		{fused(0), trimmed(many), fused(4)},
		{fused(0), trimmed(many), mended},
	} {
		all = append(all, whole.copied().do(t, ahead...))
	}
	return all
}

// fuseIs has a disk whose power is not cut let just as many raw writes succeed as the words have it; it is used up by that.
func (p *pair) fuseIs(t *testing.T) {
	t.Helper()
	for range 7 {
		p.do(t, trimmed(len(p.by.list)))
	}
}

func TestNoBlock(t *testing.T) {
	for _, many := range []int{0, 1, 5} {
		for _, p := range states(t, many) {
			isCut := p.d.Cut()
			for _, b := range noBlocks() {
				wantError(t, "Write of "+brief(b), p.d.Write(b), 2)
				if p.d.Cut() != isCut {
					t.Errorf("Write of %s: Cut() = %t", brief(b), p.d.Cut())
				}
			}
			p.stands(t, "blocks that are none")
			p.fuseIs(t)
		}
	}
}

func TestNoSuchNumberOfBlocks(t *testing.T) {
	for _, many := range []int{0, 1, 2, 5, 70} {
		for _, p := range states(t, many) {
			isCut := p.d.Cut()
			for _, blocks := range near(many) {
				if blocks >= 0 && blocks <= many {
					p.copied().do(t, trimmed(blocks)).fuseIs(t)
					continue
				}
				wantError(t, trimmed(blocks).String(), p.d.Trim(blocks), 2)
				if p.d.Cut() != isCut {
					t.Errorf("Trim(%d): Cut() = %t", blocks, p.d.Cut())
				}
			}
			p.stands(t, "Trim to numbers of blocks that are none")
			p.fuseIs(t)
		}
	}
}

// Where blocks were, and are not any more, Trim does not find them.
func TestNoBlocksAnyMore(t *testing.T) {
	p := filled(t, 9)
	for left := 8; left >= 0; left-- {
		p.do(t, trimmed(left), trimmed(left+1), trimmed(9), trimmed(left))
	}
	p.do(t, trimmed(1), written(of(1)), trimmed(2), trimmed(1))
}

func TestNoSuchFuse(t *testing.T) {
	for _, p := range states(t, 2) {
		for _, writes := range near(2) {
			if writes < 0 {
				p.do(t, fused(writes))
				wantError(t, fused(writes).String(), p.d.Fuse(writes), 2)
			}
		}
		p.copied().do(t, mended, fused(-1)).fuseIs(t)
		p.fuseIs(t)
	}
}

// A call that answers an error leaves the fuse, too, as it was.
func TestRefusedCallsLeaveTheFuse(t *testing.T) {
	for writes := range 5 {
		p := filled(t, 2).do(t, fused(writes))
		for range 10 {
			p.do(t, written(nil), written(make([]byte, 33)), trimmed(3), trimmed(-1), fused(-1), fused(math.MinInt))
		}
		p.fuseIs(t)
		wantCount(t, p.d, 2+writes, true)
	}
}

// A full disk refuses blocks as many as are written to it, with the fuse as it was, and takes just as many as were trimmed.
func TestMostBlocks(t *testing.T) {
	p := filled(t, mostBlocks-1)
	p.do(t, written(of(1)))
	for range 2 {
		p.do(t, written(of(2)), written(nil), written(make([]byte, 33)), trimmed(mostBlocks+1))
	}
	wantCount(t, p.d, mostBlocks, false)
	wantError(t, "Write to a full disk", p.d.Write(of(2)), 4)
	p.do(t, trimmed(mostBlocks), written(of(3)), trimmed(mostBlocks-2), written(of(4)), written(of(5)), written(of(6)))
	wantCount(t, p.d, mostBlocks+4, false)
	p.do(t, trimmed(0), written(of(7)))
}

func TestFuseOfAFullDisk(t *testing.T) {
	whole := filled(t, mostBlocks)
	for writes := range 4 {
		p := whole.copied().do(t, fused(writes))
		e := api.Errno(4)
		if writes == 0 {
			e = 220
		}
		for range 5 {
			wantError(t, "Write to a full disk", p.d.Write(of(2)), e)
		}
		wantCount(t, p.d, mostBlocks, writes == 0)
		p.by.isCut = writes == 0
		p.fuseIs(t)
		wantCount(t, p.d, mostBlocks+writes, true)
		// Its power cut, it tells of that.
		p.do(t, written(of(2)), fused(3), written(of(2)), written(nil), mended, written(of(2)))
	}
	// One fewer: the last block takes one off the fuse, and what is not taken behind it none.
	p := whole.copied().do(t, trimmed(mostBlocks-1), fused(2), written(of(1)), written(of(2)), written(of(3)))
	p.fuseIs(t)
}

// What was written is no limit, but what is there.
func TestMoreThanMostBlocksInAll(t *testing.T) {
	d := New()
	for i := range mostBlocks + 100 {
		if d.Write(numbered(i)) != 0 || d.Trim(i%2) != 0 {
			t.Fatalf("the block %d is refused", i)
		}
	}
	wantCount(t, d, 2*mostBlocks+200, false)
}

func TestWhichErrorComesFirst(t *testing.T) {
	for _, many := range []int{0, 1, 3, mostBlocks} {
		for _, p := range states(t, many) {
			for _, b := range [][]byte{nil, of(1)[:31], of(1), make([]byte, 33)} {
				p.copied().do(t, written(b)).do(t, written(b))
			}
			for _, blocks := range []int{-1, 0, many, many + 1} {
				p.copied().do(t, trimmed(blocks)).do(t, trimmed(blocks))
			}
			p.do(t, fused(-1))
		}
	}
}

// So that the words' own answers are tried: each error alone, and all that may come together.
func TestErrorsByHand(t *testing.T) {
	full := filled(t, mostBlocks).d
	isFused := func(d *Disk, writes int) *Disk { c := d.Copy(); c.Fuse(writes); return c }
	isCut := func(d *Disk) *Disk { c := isFused(d, 0); c.Trim(0); return c }
	few := New()
	few.Write(of(1))
	for _, c := range []struct {
		d    *Disk
		c    call
		want api.Errno
		cuts bool
	}{
		{nil, written(of(1)), api.ErrNil, false},
		{nil, written(nil), api.ErrNil, false},
		{nil, trimmed(0), api.ErrNil, false},
		{nil, trimmed(-1), api.ErrNil, false},
		{nil, fused(1), api.ErrNil, false},
		{nil, fused(-1), api.ErrNil, false},
		{nil, mended, api.ErrNil, false},
		{&Disk{}, written(of(1)), api.ErrNil, false},
		{&Disk{}, trimmed(0), api.ErrNil, false},
		{few, written(make([]byte, 31)), api.ErrArg, false},
		{few, trimmed(2), api.ErrArg, false},
		{few, fused(-1), api.ErrArg, false},
		{few, written(of(2)), api.OK, false},
		{isFused(few, 0), written(make([]byte, 33)), api.ErrArg, false},
		{isFused(few, 0), trimmed(3), api.ErrArg, false},
		{isFused(few, 0), trimmed(-1), api.ErrArg, false},
		{isFused(few, 0), fused(-1), api.ErrArg, false},
		{isFused(few, 0), written(of(2)), api.ErrCut, true},
		{isFused(few, 0), trimmed(1), api.ErrCut, true},
		{isFused(few, 0), mended, api.OK, false},
		{isFused(few, 1), written(of(2)), api.OK, false},
		{isCut(few), written(nil), api.ErrArg, true},
		{isCut(few), trimmed(5), api.ErrArg, true},
		{isCut(few), fused(-1), api.ErrArg, true},
		{isCut(few), written(of(2)), api.ErrCut, true},
		{isCut(few), trimmed(0), api.ErrCut, true},
		{isCut(few), fused(2), api.OK, true},
		{isCut(few), mended, api.OK, false},
		{full, written(make([]byte, 31)), api.ErrArg, false},
		{full, written(of(2)), api.ErrLimit, false},
		{full, trimmed(mostBlocks + 1), api.ErrArg, false},
		{isFused(full, 1), written(of(2)), api.ErrLimit, false},
		{isFused(full, 0), written(make([]byte, 33)), api.ErrArg, false},
		{isFused(full, 0), written(of(2)), api.ErrCut, true},
		{isCut(full), written(nil), api.ErrArg, true},
		{isCut(full), written(of(2)), api.ErrCut, true},
		{isCut(full), trimmed(mostBlocks), api.ErrCut, true},
	} {
		before, count := c.d.Blocks(), c.d.Count()
		wantError(t, c.c.String(), done(c.d, c.c), c.want)
		if c.want != api.OK {
			wantBlocks(t, c.d, before...)
			wantCount(t, c.d, count, c.cuts)
		}
		if c.d.Cut() != c.cuts {
			t.Errorf("%s: Cut() = %t", c.c, c.d.Cut())
		}
	}
}

func TestNotThere(t *testing.T) {
	for _, d := range []*Disk{nil, {}, new(Disk)} {
		what := fmt.Sprintf("of a disk that is not there (nil: %t)", d == nil)
		// More than once, since no call makes it be there.
		for range 2 {
			for _, many := range near(1) {
				for _, b := range [][]byte{nil, of(1)[:31], of(1), make([]byte, 33)} {
					for _, k := range kinds {
						c := call{k, many, b}
						wantError(t, c.String()+" "+what, done(d, c), 1)
					}
				}
			}
			if l := d.Blocks(); len(l) != 0 {
				t.Errorf("Blocks() %s: %s", what, briefly(l))
			}
			wantCount(t, d, 0, false)
			if c := d.Copy(); c != nil {
				t.Errorf("Copy() %s: %v", what, c)
			}
		}
	}
}
