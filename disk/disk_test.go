package disk

// P22.1 to P22.3: what each call answers, and the chapter's examples.

import (
	"bytes"
	"fmt"
	"math"
	"slices"
	"testing"

	"conclave/api"
)

// The limits, as the document writes them.
const (
	mostBlocks = 65536
	size       = 32
)

// of is a block of so many times a byte.
func of(a byte) []byte { return bytes.Repeat([]byte{a}, size) }

// numbered is a block unlike that of any other number, and no two of its bytes that stand next to each other are the same.
func numbered(number int) []byte {
	b := make([]byte, size)
	for i := range b {
		b[i] = byte(number>>(i%4*8) + 7*i)
	}
	return b
}

// kind is which of the calls that may change a disk is done.
type kind int

const (
	write kind = iota
	trim
	fuse
	mend
)

var kinds = []kind{write, trim, fuse, mend}

// call is one of them: many is how many blocks a Trim leaves, how many raw writes a Fuse lets succeed.
type call struct {
	kind  kind
	many  int
	block []byte
}

func written(block []byte) call { return call{kind: write, block: block} }
func trimmed(blocks int) call   { return call{kind: trim, many: blocks} }
func fused(writes int) call     { return call{kind: fuse, many: writes} }

var mended = call{kind: mend}

func (c call) String() string {
	switch c.kind {
	case write:
		return fmt.Sprintf("Write(%s)", brief(c.block))
	case trim:
		return fmt.Sprintf("Trim(%d)", c.many)
	case fuse:
		return fmt.Sprintf("Fuse(%d)", c.many)
	}
	return "Mend()"
}

// brief tells a block that may have another length.
func brief(b []byte) string { return fmt.Sprintf("%.6x of %d bytes", b, len(b)) }

func briefly(l [][]byte) string {
	s := fmt.Sprintf("%d:", len(l))
	for _, b := range l[:min(len(l), 12)] {
		s += " " + brief(b) + ";"
	}
	return s
}

func done(d *Disk, c call) api.Errno {
	switch c.kind {
	case write:
		return d.Write(c.block)
	case trim:
		return d.Trim(c.many)
	case fuse:
		return d.Fuse(c.many)
	}
	return d.Mend()
}

// plain is a disk by the chapter's words: a list of blocks that each raw write makes anew, the fuse as a list of none or one.
type plain struct {
	isThere bool
	list    [][size]byte
	fuse    []int
	isCut   bool
	count   int
}

// mayBe tells whether what is handed in may be.
func (p *plain) mayBe(c call) bool {
	switch c.kind {
	case write:
		return len(c.block) == size
	case trim:
		return c.many >= 0 && c.many <= len(p.list)
	case fuse:
		return c.many >= 0
	}
	return true
}

func (p *plain) isFull() bool { return len(p.list) >= mostBlocks }

func (p *plain) done(c call) api.Errno {
	switch {
	case !p.isThere:
		return 1
	case !p.mayBe(c):
		return 2
	case c.kind == fuse:
		p.fuse = []int{c.many}
		return 0
	case c.kind == mend:
		p.fuse, p.isCut = nil, false
		return 0
	case p.isCut || len(p.fuse) == 1 && p.fuse[0] == 0:
		p.isCut = true
		return 220
	case c.kind == write && p.isFull():
		return 4
	}
	if c.kind == write {
		p.list = slices.Concat(p.list, [][size]byte{[size]byte(c.block)})
	} else {
		p.list = slices.Clone(p.list[:c.many])
	}
	if len(p.fuse) == 1 {
		p.fuse = []int{p.fuse[0] - 1}
	}
	p.count++
	return 0
}

// asArrays are blocks that have all their bytes.
func asArrays(t *testing.T, l [][]byte) [][size]byte {
	t.Helper()
	all := make([][size]byte, len(l))
	for i, b := range l {
		if len(b) != size {
			t.Errorf("the block %d has %d bytes", i, len(b))
			continue
		}
		all[i] = [size]byte(b)
	}
	return all
}

// asLists are blocks as calls tell them.
func asLists(l [][size]byte) [][]byte {
	var all [][]byte
	for _, b := range l {
		all = append(all, b[:])
	}
	return all
}

// pair is a disk, and what the words make of it.
type pair struct {
	d  *Disk
	by plain
}

func made(t *testing.T) *pair {
	t.Helper()
	d := New()
	if d == nil {
		t.Fatal("New() = nil")
	}
	return &pair{d, plain{isThere: true}}
}

// stands has the disk tell its blocks, its count and whether its power is cut as the words do.
func (p *pair) stands(t *testing.T, behind string) {
	t.Helper()
	if got := p.d.Blocks(); !slices.Equal(asArrays(t, got), p.by.list) {
		t.Errorf("behind %s: Blocks() = %s, not %s", behind, briefly(got), briefly(asLists(p.by.list)))
	}
	if got := p.d.Count(); got != p.by.count {
		t.Errorf("behind %s: Count() = %d, not %d", behind, got, p.by.count)
	}
	if got := p.d.Cut(); got != p.by.isCut {
		t.Errorf("behind %s: Cut() = %t", behind, got)
	}
}

// do has calls answer and leave behind, one by one, what the words make of them.
func (p *pair) do(t *testing.T, calls ...call) *pair {
	t.Helper()
	for _, c := range calls {
		if e, by := done(p.d, c), p.by.done(c); e != by {
			t.Errorf("%s = %d, not %d", c, e, by)
		}
		p.stands(t, c.String())
	}
	return p
}

// copied is a copy of both.
func (p *pair) copied() *pair { return &pair{p.d.Copy(), p.by} }

// filled has so many blocks, unlike ones.
func filled(t *testing.T, many int) *pair {
	t.Helper()
	p := made(t)
	l := make([][size]byte, many)
	for i := range l {
		b := numbered(i)
		if e := p.d.Write(b); e != 0 {
			t.Fatalf("Write of the block %d: %d", i, e)
		}
		l[i] = [size]byte(b)
	}
	p.by.list, p.by.count = l, many
	p.stands(t, fmt.Sprintf("%d blocks", many))
	return p
}

func wantError(t *testing.T, what string, e, want api.Errno) {
	t.Helper()
	if e != want {
		t.Errorf("%s: %d, not %d", what, e, want)
	}
}

func wantBlocks(t *testing.T, d *Disk, want ...[]byte) {
	t.Helper()
	if got := d.Blocks(); !slices.EqualFunc(got, want, bytes.Equal) {
		t.Errorf("Blocks() = %s, not %s", briefly(got), briefly(want))
	}
}

func wantCount(t *testing.T, d *Disk, count int, isCut bool) {
	t.Helper()
	if d.Count() != count || d.Cut() != isCut {
		t.Errorf("Count() = %d, Cut() = %t, not %d, %t", d.Count(), d.Cut(), count, isCut)
	}
}

func TestExamples(t *testing.T) {
	d := New()
	wantError(t, "Write(1)", d.Write(of(1)), 0)
	wantError(t, "Fuse(1)", d.Fuse(1), 0)
	wantError(t, "Write(2)", d.Write(of(2)), 0)
	wantError(t, "Write(3)", d.Write(of(3)), 220)
	wantCount(t, d, 2, true)
	wantBlocks(t, d, of(1), of(2))
	wantError(t, "Trim(0)", d.Trim(0), 220)
	wantError(t, "Mend()", d.Mend(), 0)
	wantError(t, "Trim(1)", d.Trim(1), 0)
	wantCount(t, d, 3, false)
	wantError(t, "Write(of 31 bytes)", d.Write(make([]byte, 31)), 2)
	wantError(t, "Trim(2)", d.Trim(2), 2)
	wantBlocks(t, d, of(1))
}

func TestNew(t *testing.T) {
	p := made(t)
	p.stands(t, "New()")
	wantBlocks(t, p.d)
	wantCount(t, p.d, 0, false)
	// Without a fuse as many raw writes succeed as there are.
	for i := range 300 {
		p.do(t, written(numbered(i)), trimmed(i/2))
	}
}

// No two disks have anything in common.
func TestNewDisks(t *testing.T) {
	one, other := filled(t, 3), made(t)
	other.do(t, fused(1), written(of(7)), written(of(8)))
	one.stands(t, "calls of another disk")
	one.do(t, trimmed(1), written(of(9)), written(of(10)))
	other.stands(t, "calls of another disk")
}

func TestWrite(t *testing.T) {
	p := made(t)
	for a := range 256 {
		p.do(t, written(of(byte(a))))
	}
	// A block of noughts, and one that is there, are blocks as any other.
	p.do(t, written(make([]byte, size)), written(make([]byte, size)), written(of(255)), written(of(255)))
	for i := range size {
		b := make([]byte, size)
		b[i] = 1
		p.do(t, written(b))
	}
	wantCount(t, p.d, 256+4+size, false)
}

// What stands behind a block's end is no part of it.
func TestWriteOfPieces(t *testing.T) {
	p := made(t)
	whole := bytes.Join([][]byte{numbered(1), numbered(2), numbered(3)}, nil)
	for i := range 2*size + 1 {
		p.do(t, written(whole[i:i+size]), written(whole[i:i+size:i+size]))
	}
}

func TestTrim(t *testing.T) {
	for many := range 9 {
		for blocks := range many + 1 {
			p := filled(t, many).do(t, trimmed(blocks))
			wantCount(t, p.d, many+1, false)
			// What was there is gone, also from the places that are written anew.
			p.do(t, trimmed(blocks), trimmed(blocks+1), written(of(200)), trimmed(blocks+1), trimmed(blocks), written(of(201)), trimmed(0), trimmed(0), trimmed(1))
		}
	}
}

func TestTrimsOneBehindTheOther(t *testing.T) {
	p := filled(t, 40)
	for i := range 41 {
		p.do(t, trimmed(40-i), trimmed(40-i))
	}
	wantCount(t, p.d, 122, false)
	wantBlocks(t, p.d)
}

// rawWrites are some that succeed on a disk with three blocks, one behind the other.
func rawWrites() []call {
	return []call{written(of(1)), trimmed(4), trimmed(0), trimmed(0), written(of(2)), written(of(3)), trimmed(1), written(of(4))}
}

func TestFuse(t *testing.T) {
	raws := rawWrites()
	for writes := range len(raws) + 3 {
		p := filled(t, 3).do(t, fused(writes))
		wantCount(t, p.d, 3, false)
		p.do(t, raws...)
		wantCount(t, p.d, 3+min(writes, len(raws)), writes < len(raws))
	}
}

// The power is cut by the write that is tried while the fuse is 0, not by the last one that succeeds, nor by Fuse.
func TestWhenThePowerIsCut(t *testing.T) {
	for _, last := range []call{written(of(1)), trimmed(0), trimmed(3)} {
		p := filled(t, 3).do(t, fused(1), last)
		wantCount(t, p.d, 4, false)
		p.do(t, fused(0))
		wantCount(t, p.d, 4, false)
		p.do(t, trimmed(0))
		wantCount(t, p.d, 4, true)
	}
}

// None succeeds any more until Mend, whatever the fuse.
func TestUntilMend(t *testing.T) {
	for _, cut := range []call{written(of(1)), trimmed(3), trimmed(0)} {
		p := filled(t, 3).do(t, fused(0), cut)
		for _, writes := range []int{0, 1, 7, math.MaxInt} {
			p.do(t, fused(writes)).do(t, rawWrites()...)
			p.do(t, trimmed(3), trimmed(2), fused(-1))
			wantCount(t, p.d, 3, true)
		}
		p.do(t, mended).do(t, rawWrites()...)
		wantCount(t, p.d, 3+len(rawWrites()), false)
	}
}

// A fuse that is set while there is one takes its place.
func TestFuseWhileThereIsOne(t *testing.T) {
	for first := range 5 {
		for between := range 4 {
			for second := range 5 {
				p := filled(t, 3).do(t, fused(first)).do(t, rawWrites()[:between]...)
				p.do(t, fused(second)).do(t, rawWrites()[:6]...)
			}
		}
	}
}

// A fuse that is set while the power is cut is gone with Mend.
func TestMend(t *testing.T) {
	for _, ahead := range [][]call{
		nil,
		{fused(0)},
		{fused(2)},
		{fused(1), written(of(9))},
		{fused(0), written(of(9))},
		{fused(0), written(of(9)), fused(0)},
		{fused(0), trimmed(1), fused(2)},
		{mended},
		{fused(1), mended, fused(0), mended},
	} {
		p := filled(t, 3).do(t, ahead...)
		count := p.d.Count()
		p.do(t, mended)
		wantCount(t, p.d, count, false)
		p.copied().do(t, rawWrites()...)
		p.do(t, mended, trimmed(3), trimmed(3), trimmed(3), trimmed(3))
		// And a fuse is one again.
		p.do(t, fused(1), trimmed(3), trimmed(3))
		wantCount(t, p.d, count+5, true)
	}
}

// Many raw writes take nothing off a fuse that is as great as an int can be but one each.
func TestGreatFuses(t *testing.T) {
	for _, writes := range []int{1 << 31, 1 << 32, math.MaxInt - 1, math.MaxInt} {
		p := made(t).do(t, fused(writes))
		for i := range 100 {
			p.do(t, written(numbered(i)), trimmed(i/3))
		}
		p.do(t, fused(writes), mended, fused(writes), trimmed(0), fused(1), trimmed(0), trimmed(0))
	}
}

func TestCopy(t *testing.T) {
	for _, many := range []int{0, 1, 2, 7, 1000} {
		for _, ahead := range [][]call{nil, {fused(0)}, {fused(3)}, {fused(1), trimmed(many)}, {fused(0), trimmed(0)}, {fused(0), trimmed(0), fused(2)}, {trimmed(many / 2)}} {
			p := filled(t, many).do(t, ahead...)
			c := p.copied()
			if c.d == p.d {
				t.Fatal("a copy is what it was copied of")
			}
			c.stands(t, "Copy")
			p.stands(t, "Copy of it")
			for _, raws := range [][]call{{mended}, {written(of(1)), written(of(2)), written(of(3)), written(of(4)), mended, written(of(5))}, {trimmed(0), written(of(1)), fused(1), written(of(6)), trimmed(0)}} {
				p.copied().do(t, raws...)
				p.copied().copied().do(t, raws...)
			}
			p.stands(t, "calls of its copies")
			c.do(t, fused(2), trimmed(0), mended, written(of(7)))
			p.stands(t, "calls of its copy")
		}
	}
}
