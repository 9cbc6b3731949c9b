package disk

// Rule 5: what is handed in stays as it is, what is answered is shared with nothing, and copies go their own ways.

import (
	"slices"
	"testing"

	"conclave/api"
	"conclave/sample"
)

func TestMemoryOfBlocks(t *testing.T) {
	do := func(h [][]byte) [][]byte {
		d := New()
		d.Write(h[0])
		d.Write(h[1])
		c := d.Copy()
		d.Trim(1)
		d.Write(h[1])
		d.Fuse(1)
		d.Write(h[2])
		d.Write(h[0])
		return slices.Concat(d.Blocks(), d.Blocks(), c.Blocks(), c.Copy().Blocks())
	}
	if wrong := sample.Apart(do, numbered(1), numbered(2), numbered(3)); wrong != "" {
		t.Error(wrong)
	}
}

func TestMemoryOfBlocksThatAreRefused(t *testing.T) {
	full := filled(t, mostBlocks).d
	for _, handed := range [][]byte{nil, numbered(3)[:31], numbered(3), make([]byte, 33)} {
		do := func(h [][]byte) [][]byte {
			d := New()
			full.Write(h[0])
			(*Disk)(nil).Write(h[0])
			(&Disk{}).Write(h[0])
			d.Fuse(0)
			d.Write(h[0])
			d.Write(h[0])
			return d.Blocks()
		}
		if wrong := sample.Apart(do, handed); wrong != "" {
			t.Errorf("%s: %s", brief(handed), wrong)
		}
	}
}

// What a caller writes over in a block that it handed in is not seen by the disk, nor by a copy.
func TestBlocksHandedIn(t *testing.T) {
	for many := range 20 {
		p := filled(t, many)
		whole := append(numbered(500), numbered(501)...)
		p.do(t, written(whole[:size]))
		c := p.copied()
		sample.Scribble(whole)
		p.stands(t, "writing over what was written")
		c.stands(t, "writing over what was written ahead of Copy")
		p.do(t, written(whole[size:]), written(whole[:size]), trimmed(many+2))
		sample.Scribble(whole)
		p.stands(t, "writing over what was written again")
		p.do(t, written(of(1)))
	}
}

// What a caller writes over in what it was told is not seen by the disk, nor by a copy, nor by what was told ahead.
func TestBlocksAnswered(t *testing.T) {
	for many := range 20 {
		for blocks := range many + 1 {
			p := filled(t, many).do(t, trimmed(blocks))
			c := p.copied()
			before := p.d.Blocks()
			sample.ScribbleLists(p.d.Blocks())
			sample.ScribbleLists(c.d.Blocks())
			p.stands(t, "writing over what Blocks told")
			c.stands(t, "writing over what Blocks told")
			if !slices.Equal(asArrays(t, before), p.by.list) {
				t.Errorf("what was told ahead is %s", briefly(before))
			}
			told := slices.Clone(p.by.list)
			p.do(t, trimmed(0), written(of(8)), written(of(9)))
			c.do(t, written(of(10)), trimmed(blocks/2), written(of(11)))
			if !slices.Equal(asArrays(t, before), told) {
				t.Errorf("what was told ahead of raw writes is %s", briefly(before))
			}
		}
	}
}

// What stands behind the end of a block that was told is no block's.
func TestMoreBehindBlocksAnswered(t *testing.T) {
	p := filled(t, 6)
	l := p.d.Blocks()
	for i := range l {
		_ = append(l[i], of(99)...)
		if !slices.Equal(asArrays(t, l), p.by.list) {
			t.Errorf("putting more behind the block %d leaves %s", i, briefly(l))
		}
	}
	_ = append(l[:2], of(99), of(98))
	p.stands(t, "putting more behind what Blocks told")
}

// A copy and what it was copied of go their own ways, whichever of them goes first.
func TestCopiesGoTheirOwnWays(t *testing.T) {
	ways := [][]call{
		{written(of(101)), written(of(102)), trimmed(0)},
		{trimmed(0), written(of(103)), written(of(104))},
		{fused(1), written(of(105)), written(of(106))},
		{fused(0), trimmed(0), mended},
		{mended, written(of(107)), fused(0)},
	}
	for _, many := range []int{0, 1, 2, 3, 4, 5, 8, 9, 16, 17} {
		for _, gone := range []int{0, 1, 3} {
			for _, one := range ways {
				for _, other := range ways {
					// What was trimmed has left room within the disk's memory.
					p := filled(t, many).do(t, trimmed(max(0, many-gone)), fused(2))
					c := p.copied()
					for i := range one {
						p.do(t, one[i])
						c.stands(t, "a call of what it was copied of")
						c.do(t, other[i])
						p.stands(t, "a call of its copy")
					}
				}
			}
		}
	}
}

func TestCopiesOfCopies(t *testing.T) {
	p := filled(t, 6)
	all := []*pair{p}
	for i, c := range []call{written(of(1)), fused(2), trimmed(3), written(of(2)), written(of(3)), fused(1), mended, trimmed(0), written(of(4))} {
		p = p.copied().do(t, c)
		all = append(all, p)
		for _, earlier := range all[:i+1] {
			earlier.stands(t, c.String()+" of a copy")
		}
	}
}

// Disks, copies of one among them, are used at once, and hang on themselves alone.
func TestDisksAtOnce(t *testing.T) {
	done := make(chan bool)
	p := filled(t, 20)
	for from := range 4 {
		own, copied := filled(t, 10), p.copied()
		go func() {
			defer func() { done <- true }()
			for _, a := range sample.Scattered(api.Large, 300+from)[from:] {
				own.do(t, own.steered(a))
				copied.do(t, copied.steered(a/7))
			}
		}()
	}
	for range 4 {
		<-done
	}
	p.stands(t, "calls of its copies")
}
