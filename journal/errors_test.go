package journal

// The errors, which of them comes first, and what a call that answers one leaves behind.

import (
	"bytes"
	"fmt"
	"math"
	"slices"
	"testing"

	"conclave/api"
	"conclave/disk"
	"conclave/sample"
)

// tooLong are records of more than the most bytes.
func tooLong() [][]byte {
	return [][]byte{make([]byte, mostBytes+1), sample.Bytes(1, mostBytes+1), make([]byte, mostBytes+21), make([]byte, 2*mostBytes)}
}

// withRoomFor is a disk that takes so many more blocks: records and, behind them, what is none.
func withRoomFor(t *testing.T, blocks int) *disk.Disk {
	t.Helper()
	l := allBlocks(make([]byte, mostBytes), nil)
	for len(l) < mostBlocks-blocks {
		l = append(l, bytes.Repeat([]byte{byte(len(l))}, size))
	}
	return filled(t, l...)
}

// fused is a copy of a disk, of which so many raw writes still succeed.
func fused(d *disk.Disk, writes int) *disk.Disk {
	c := d.Copy()
	c.Fuse(writes)
	return c
}

// dark is a copy of a disk, whose power is cut.
func dark(d *disk.Disk) *disk.Disk {
	c := fused(d, 0)
	c.Trim(0)
	return c
}

// stays has a call leave the disk as it was: its blocks, its count, its fuse, whether its power is cut.
func stays(t *testing.T, d *disk.Disk, do func()) {
	t.Helper()
	blocks, count, isCut, before := d.Blocks(), d.Count(), d.Cut(), d.Copy()
	do()
	wantBlocks(t, d, blocks...)
	wantCount(t, d, count, isCut)
	fuseIsThatOf(t, d.Copy(), before)
}

// fuseIsThatOf has just as many raw writes succeed of two disks, as far as a few tell; they are used up by that.
func fuseIsThatOf(t *testing.T, d, other *disk.Disk) {
	t.Helper()
	for i := range 7 {
		if e, want := d.Trim(0), other.Trim(0); e != want {
			t.Errorf("the raw write %d behind it: %d, not %d", i, e, want)
		}
	}
}

func TestTooLong(t *testing.T) {
	few, full := filled(t, allBlocks([]byte{1}, long(3))...), withRoomFor(t, 0)
	for _, r := range tooLong() {
		for _, d := range []*disk.Disk{disk.New(), few, fused(few, 0), fused(few, 1), fused(few, 5), fused(few, math.MaxInt), dark(few), fused(dark(few), 3), full, fused(full, 0), dark(full), withRoomFor(t, 1)} {
			stays(t, d, func() { wantError(t, "Append of "+brief(r), Append(d, r), 4) })
		}
	}
}

func TestNotThere(t *testing.T) {
	for _, d := range []*disk.Disk{nil, {}, new(disk.Disk)} {
		what := fmt.Sprintf(" (nil: %t)", d == nil)
		// More than once, since no call makes it be there.
		for range 2 {
			for _, r := range append(tooLong(), nil, []byte{}, []byte{1}, long(4), make([]byte, mostBytes)) {
				wantError(t, "Append of "+brief(r)+what, Append(d, r), 1)
			}
			wantOpen(t, d, nil, 1)
			wantBlocks(t, d)
			wantCount(t, d, 0, false)
		}
	}
}

// So that the words' own answers are tried: each error alone, and all that may come together. Blocks is how many blocks are written behind those that were there.
func TestErrorsByHand(t *testing.T) {
	few := filled(t, allBlocks([]byte{1}, long(3))...)
	full, roomForTwo := withRoomFor(t, 0), withRoomFor(t, 2)
	tooMany := make([]byte, mostBytes+1)
	for i, c := range []struct {
		d      *disk.Disk
		record []byte
		want   api.Errno
		blocks int
		cuts   bool
	}{
		{nil, tooMany, 1, 0, false},
		{&disk.Disk{}, tooMany, 1, 0, false},
		{nil, nil, 1, 0, false},
		{few, tooMany, 4, 0, false},
		{fused(few, 0), tooMany, 4, 0, false},
		{dark(few), tooMany, 4, 0, true},
		{full, tooMany, 4, 0, false},
		{dark(full), tooMany, 4, 0, true},
		{few, nil, 0, 1, false},
		{fused(few, 0), nil, 220, 0, true},
		{fused(few, 1), nil, 0, 1, false},
		{fused(few, 1), long(2), 220, 1, true},
		{fused(few, 2), long(2), 0, 2, false},
		{fused(few, 2), long(5), 220, 2, true},
		{dark(few), nil, 220, 0, true},
		{dark(few), long(5), 220, 0, true},
		{fused(dark(few), 5), long(5), 220, 0, true},
		{full, nil, 4, 0, false},
		{full, long(5), 4, 0, false},
		{full, make([]byte, mostBytes), 4, 0, false},
		{fused(full, 1), nil, 4, 0, false},
		{fused(full, 0), nil, 220, 0, true},
		{fused(full, 0), long(5), 220, 0, true},
		{dark(full), nil, 220, 0, true},
		{roomForTwo.Copy(), nil, 0, 1, false},
		{roomForTwo.Copy(), long(2), 0, 2, false},
		{roomForTwo.Copy(), long(3), 4, 2, false},
		{roomForTwo.Copy(), make([]byte, mostBytes), 4, 2, false},
		{fused(roomForTwo, 0), long(3), 220, 0, true},
		{fused(roomForTwo, 1), long(3), 220, 1, true},
		{fused(roomForTwo, 2), long(3), 220, 2, true},
		{fused(roomForTwo, 3), long(3), 4, 2, false},
		{fused(roomForTwo, 3), long(9), 4, 2, false},
	} {
		before, count, fuse := c.d.Blocks(), c.d.Count(), c.d.Copy()
		wantError(t, fmt.Sprintf("%d: Append of %s", i, brief(c.record)), Append(c.d, c.record), c.want)
		var written [][]byte
		if c.blocks > 0 {
			written = blocksBy(c.record)[:c.blocks]
		}
		wantBlocks(t, c.d, slices.Concat(before, written)...)
		wantCount(t, c.d, count+c.blocks, c.cuts)
		if c.cuts {
			continue
		}
		// What was written took one each off the fuse, what was refused none.
		for range c.blocks {
			fuse.Trim(0)
		}
		fuseIsThatOf(t, c.d.Copy(), fuse)
	}
}

// The error of the first block that is refused is told, whatever would be told behind it, and no block behind that one is tried.
func TestNoBlockBehindTheFirstRefused(t *testing.T) {
	piece := pieceBy(long(6))
	for refused := range 8 {
		for _, e := range []api.Errno{220, 4, 2} {
			var tried [][]byte
			write := func(block []byte) api.Errno {
				tried = append(tried, block)
				switch {
				case len(tried) <= refused:
					return 0
				case len(tried) == refused+1:
					return e
				}
				return 99
			}
			want := e
			if refused >= 6 {
				want = 0
			}
			wantError(t, fmt.Sprintf("with the block %d refused", refused), writeAll(write, piece), want)
			if !same(tried, blocksBy(long(6))[:min(refused+1, 6)]) {
				t.Errorf("with the block %d refused these are tried: %s", refused, briefly(tried))
			}
		}
	}
	keep := firstError()
	for i, e := range []api.Errno{0, 0, 220, 4, 0, 1} {
		want := api.OK
		if i >= 2 {
			want = 220
		}
		wantError(t, fmt.Sprintf("the first error of %d", i), keep(e), want)
	}
}

// Of each number of blocks that are written, behind each number that are there.
func TestAppendIsCut(t *testing.T) {
	for _, ahead := range [][][]byte{nil, {{1}}, {long(3), nil}} {
		first := allBlocks(ahead...)
		for _, r := range [][]byte{nil, {1}, long(1), long(2), long(7), make([]byte, 53)} {
			by := blocksBy(r)
			for fuse := range len(by) + 3 {
				d := fused(filled(t, first...), fuse)
				want, many := api.OK, len(by)
				if fuse < many {
					want, many = api.ErrCut, fuse
				}
				wantError(t, "Append of "+brief(r), Append(d, r), want)
				wantBlocks(t, d, append(slices.Clone(first), by[:many]...)...)
				wantCount(t, d, len(first)+many, fuse < len(by))
				wantRead(t, d.Blocks())
				if fuse < len(by) {
					wantError(t, "Append", Append(d, nil), 220)
					wantError(t, "Append", Append(d, r), 220)
					wantBlocks(t, d, append(slices.Clone(first), by[:many]...)...)
				}
			}
		}
	}
}

func TestAppendOnDisksWithLittleRoom(t *testing.T) {
	for room := range 5 {
		whole := withRoomFor(t, room)
		for _, r := range [][]byte{nil, long(1), long(2), long(3), long(5), make([]byte, mostBytes)} {
			d := whole.Copy()
			want, many := api.OK, Size(r)
			if room < many {
				want, many = api.ErrLimit, room
			}
			before := d.Blocks()
			wantError(t, "Append of "+brief(r), Append(d, r), want)
			wantBlocks(t, d, append(before, blocksBy(r)[:many]...)...)
			wantCount(t, d, mostBlocks-room+many, false)
		}
	}
}

// What a full disk did not take whole is trimmed; then there is room for what is no longer than that.
func TestOpenOfAFullDisk(t *testing.T) {
	d := disk.New()
	all := [][]byte{make([]byte, mostBytes), sample.Bytes(1, mostBytes-3*size)}
	wantError(t, "Append of "+brief(all[0]), Append(d, all[0]), 0)
	wantError(t, "Append of "+brief(all[0]), Append(d, all[0]), 4)
	if many := len(d.Blocks()); many != mostBlocks {
		t.Errorf("%d blocks", many)
	}
	wantError(t, "Append", Append(d, nil), 4)
	wantOpen(t, d, all[:1], 0)
	wantBlocks(t, d, allBlocks(all[:1]...)...)
	wantCount(t, d, mostBlocks+1, false)
	wantError(t, "Append of "+brief(all[1]), Append(d, all[1]), 0)
	wantOpen(t, d, all, 0)
	wantError(t, "Append of "+brief(long(2)), Append(d, long(2)), 4)
	wantOpen(t, d, all, 0)
	wantError(t, "Append", Append(d, nil), 0)
	wantOpen(t, d, append(all, nil), 0)
	if many := len(d.Blocks()); many != mostBlocks {
		t.Errorf("%d blocks", many)
	}
}

// A power that is cut is told of by Open just if there is something to trim.
func TestOpenErrorsByHand(t *testing.T) {
	records := [][]byte{{1}, long(3)}
	fine := filled(t, allBlocks(records...)...)
	half := filled(t, append(allBlocks(records...), blocksBy(long(2))[0])...)
	for i, c := range []struct {
		d      *disk.Disk
		want   api.Errno
		writes int
		cuts   bool
	}{
		{nil, 1, 0, false},
		{&disk.Disk{}, 1, 0, false},
		{fine, 0, 0, false},
		{fused(fine, 0), 0, 0, false},
		{dark(fine), 0, 0, true},
		{half.Copy(), 0, 1, false},
		{fused(half, 1), 0, 1, false},
		{fused(half, 0), 220, 0, true},
		{dark(half), 220, 0, true},
		{fused(dark(half), 4), 220, 0, true},
	} {
		count := c.d.Count()
		l, e := Open(c.d)
		wantError(t, fmt.Sprintf("%d: Open", i), e, c.want)
		if c.want == 0 && !same(l, records) || c.want != 0 && len(l) != 0 {
			t.Errorf("%d: Open tells %s", i, briefly(l))
		}
		wantCount(t, c.d, count+c.writes, c.cuts)
	}
}
