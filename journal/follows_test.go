package journal

// P23.3, and every call in many orders, one behind the other.

import (
	"bytes"
	"fmt"
	"math"
	"slices"
	"testing"

	"conclave/api"
	"conclave/disk"
	"conclave/sample"
)

// isBeginning tells whether a list has the first of another, in order.
func isBeginning(l, of [][]byte) bool { return len(l) <= len(of) && same(l, of[:len(l)]) }

// histories are records that are appended one behind the other.
func histories() [][][]byte {
	return [][][]byte{
		{nil},
		{long(4)},
		{{1}, {2}, {3}},
		{nil, long(2), nil, long(3), {9}},
		{sample.Bytes(1, 20), sample.Bytes(2, 21), sample.Bytes(3, 52), sample.Bytes(4, 53)},
		{make([]byte, 53), make([]byte, 21), nil, make([]byte, 85), {0}},
		{long(3), long(3), long(3), long(3)},
		// Such as are a record's blocks themselves, so that part of one holds a whole one.
		{slices.Concat(allBlocks(nil, long(2))...), slices.Concat(allBlocks([]byte{1}, nil, nil)...), {7}},
		{append(make([]byte, 28), slices.Concat(allBlocks(nil, nil, nil)...)...), append(make([]byte, 28), slices.Concat(allBlocks(long(2), nil)...)...), nil},
	}
}

// life is a disk that is opened behind each cut; the fuses are those that stand when the disk comes to be and behind each mending, as long as there are any.
type life struct {
	d     *disk.Disk
	fuses []int
	// kept are the records that were told, or whose Append was OK.
	kept [][]byte
}

func born(fuses ...int) *life {
	v := &life{d: disk.New(), fuses: fuses}
	v.mend()
	return v
}

func (v *life) mend() {
	v.d.Mend()
	if len(v.fuses) > 0 {
		v.d.Fuse(v.fuses[0])
		v.fuses = v.fuses[1:]
	}
}

// opened mends the disk and opens the journal, however often the power is cut in that.
func (v *life) opened(t *testing.T) [][]byte {
	t.Helper()
	for {
		v.mend()
		l, e := Open(v.d)
		switch {
		case e == api.OK:
			wantBlocks(t, v.d, allBlocks(l...)...)
			return l
		case e != api.ErrCut || len(l) != 0 || !v.d.Cut():
			t.Fatalf("Open = %s, %d", briefly(l), e)
		}
	}
}

// takes has a record appended, and the journal opened if the power is cut in that: the records are those that were there ahead, and perhaps this one.
func (v *life) takes(t *testing.T, record []byte) {
	t.Helper()
	switch e := Append(v.d, record); e {
	case api.OK:
		v.kept = append(v.kept, record)
	case api.ErrCut:
		l := v.opened(t)
		under := append(slices.Clone(v.kept), record)
		if !isBeginning(v.kept, l) || !isBeginning(l, under) {
			t.Errorf("behind a cut within %s the records are %s, and were %s", brief(record), briefly(l), briefly(v.kept))
		}
		v.kept = l
	default:
		t.Errorf("Append of %s: %d", brief(record), e)
	}
}

// ends has the disk, mended, tell what was kept, and nothing else.
func (v *life) ends(t *testing.T) {
	t.Helper()
	v.fuses = nil
	if l := v.opened(t); !same(l, v.kept) {
		t.Errorf("the records are %s, not %s", briefly(l), briefly(v.kept))
	}
	wantRecords(t, v.d.Blocks(), v.kept, len(allBlocks(v.kept...)))
}

// Behind each number of raw writes: the records are the first ones whose blocks are all there.
func TestOneCut(t *testing.T) {
	for _, all := range histories() {
		l := allBlocks(all...)
		for fuse := range len(l) + 3 {
			v := born(fuse)
			well := 0
			for _, r := range all {
				if Append(v.d, r) != api.OK {
					break
				}
				well++
			}
			wantBlocks(t, v.d, l[:min(fuse, len(l))]...)
			want, _ := recordsBy(l[:min(fuse, len(l))])
			if got := v.opened(t); !same(got, want) || len(got) < well || !isBeginning(got, all[:min(well+1, len(all))]) {
				t.Errorf("behind %d raw writes, with %d records told OK: %s, not %s", fuse, well, briefly(got), briefly(want))
			}
			// It goes on from there.
			v.kept = want
			for _, r := range slices.Concat(all[len(want):], [][]byte{{5}, long(2)}) {
				v.takes(t, r)
			}
			v.ends(t)
			if !same(v.kept, slices.Concat(all, [][]byte{{5}, long(2)})) {
				t.Errorf("behind %d raw writes it goes on to %s", fuse, briefly(v.kept))
			}
		}
	}
}

// The power is cut within Open too, once and again, and in what is appended behind it.
func TestManyCuts(t *testing.T) {
	for _, all := range histories() {
		most := len(allBlocks(all...)) + 2
		for first := range most {
			for second := range most {
				for _, behind := range [][]int{nil, {0}, {0, 0, 0}, {1}, {2}, {0, 1, 0, 3}, {1, 1, 1, 1}, {4, 0, 0, 2, 1}} {
					v := born(append([]int{first, second}, behind...)...)
					for _, r := range all {
						v.takes(t, r)
					}
					v.ends(t)
				}
			}
		}
	}
}

// What was cut is appended again until it is there: in the end all of them are, once each.
func TestAppendedAgain(t *testing.T) {
	for _, all := range histories() {
		for from := range 40 {
			var fuses []int
			for _, a := range sample.Scattered(api.Large, from+40)[from:] {
				fuses = append(fuses, int(a%6))
			}
			v := born(fuses...)
			for i, r := range all {
				for len(v.kept) <= i {
					v.takes(t, r)
				}
			}
			v.ends(t)
			if !same(v.kept, all) {
				t.Errorf("with the fuses %v: %s, not %s", fuses, briefly(v.kept), briefly(all))
			}
		}
	}
}

// Open, however often the power is cut in it, loses none.
func TestOpenLosesNone(t *testing.T) {
	for _, all := range lists() {
		l := allBlocks(all...)
		for _, none := range noRecords() {
			d := filled(t, slices.Concat(l, none)...)
			for range 20 {
				d.Fuse(0)
				wantOpen(t, d, nil, 220)
				wantRecords(t, d.Blocks(), all, len(l))
				d.Mend()
			}
			wantOpen(t, d, all, 0)
			wantBlocks(t, d, l...)
		}
	}
}

// kind is which of the calls that may change a disk is done.
type kind int

const (
	app kind = iota
	open
	write
	trim
	fuse
	mend
)

// call is one of them: many is how many blocks a Trim leaves, how many raw writes a Fuse lets succeed; b is a record, or a block.
type call struct {
	kind kind
	many int
	b    []byte
}

func appended(record []byte) call { return call{kind: app, b: record} }
func written(block []byte) call   { return call{kind: write, b: block} }
func trimmed(blocks int) call     { return call{kind: trim, many: blocks} }
func fuseOf(writes int) call      { return call{kind: fuse, many: writes} }

var opened, mended = call{kind: open}, call{kind: mend}

func (c call) String() string {
	return fmt.Sprintf("%s %d %s", []string{"Append", "Open", "Write", "Trim", "Fuse", "Mend"}[c.kind], c.many, brief(c.b))
}

func done(d *disk.Disk, c call) (l [][]byte, e api.Errno) {
	switch c.kind {
	case app:
		return nil, Append(d, c.b)
	case open:
		return Open(d)
	case write:
		return nil, d.Write(c.b)
	case trim:
		return nil, d.Trim(c.many)
	case fuse:
		return nil, d.Fuse(c.many)
	}
	return nil, d.Mend()
}

// plain is a disk with a journal by the words of the chapters 22 and 23: a list of blocks, how many raw writes still succeed (below 0: all).
type plain struct {
	list  [][]byte
	fuse  int
	isCut bool
	count int
}

// raw leaves another list of blocks, if that is not refused.
func (p *plain) raw(list [][]byte) api.Errno {
	if p.isCut || p.fuse == 0 {
		p.isCut = true
		return 220
	}
	if len(list) > mostBlocks {
		return 4
	}
	p.list = list
	p.fuse--
	p.count++
	return 0
}

func (p *plain) written(blocks ...[]byte) api.Errno {
	for _, b := range blocks {
		if e := p.raw(slices.Concat(p.list, [][]byte{b})); e != 0 {
			return e
		}
	}
	return 0
}

func (p *plain) opened() (l [][]byte, e api.Errno) {
	l, whole := recordsBy(p.list)
	if whole < len(p.list) {
		e = p.raw(slices.Clone(p.list[:whole]))
	}
	if e != 0 {
		return nil, e
	}
	return l, 0
}

func (p *plain) done(c call) (l [][]byte, e api.Errno) {
	switch c.kind {
	case app:
		if len(c.b) > mostBytes {
			return nil, 4
		}
		return nil, p.written(blocksBy(c.b)...)
	case open:
		return p.opened()
	case write:
		return nil, p.written(slices.Clone(c.b))
	case trim:
		return nil, p.raw(slices.Clone(p.list[:c.many]))
	case fuse:
		p.fuse = c.many
		return nil, 0
	}
	p.fuse, p.isCut = -1, false
	return nil, 0
}

// pair is a disk, and what the words make of it.
type pair struct {
	d  *disk.Disk
	by plain
}

// pairOf has these blocks.
func pairOf(t *testing.T, blocks ...[]byte) *pair {
	t.Helper()
	return &pair{filled(t, blocks...), plain{list: blocks, fuse: -1, count: len(blocks)}}
}

// do has calls answer and leave behind, one by one, what the words make of them.
func (p *pair) do(t *testing.T, calls ...call) *pair {
	t.Helper()
	for _, c := range calls {
		l, e := done(p.d, c)
		if by, want := p.by.done(c); !same(l, by) || e != want {
			t.Errorf("%s = %s, %d, not %s, %d", c, briefly(l), e, briefly(by), want)
		}
		p.stands(t, c.String())
	}
	return p
}

func (p *pair) stands(t *testing.T, behind string) {
	t.Helper()
	l := p.d.Blocks()
	if !same(l, p.by.list) {
		t.Errorf("behind %s: Blocks() = %s, not %s", behind, briefly(l), briefly(p.by.list))
	}
	if p.d.Count() != p.by.count || p.d.Cut() != p.by.isCut {
		t.Errorf("behind %s: Count() = %d, Cut() = %t, not %d, %t", behind, p.d.Count(), p.d.Cut(), p.by.count, p.by.isCut)
	}
	wantRead(t, l)
}

// copied is a copy of both.
func (p *pair) copied() *pair { return &pair{p.d.Copy(), p.by} }

// next are the calls that are tried behind any others.
func (p *pair) next() []call {
	many := len(p.by.list)
	return []call{
		appended(nil),
		appended([]byte{byte(p.by.count)}),
		appended(long(3)),
		opened,
		written(blocksBy(long(2))[0]),
		written(blocksBy(long(2))[1]),
		trimmed(max(0, many-1)),
		fuseOf(0),
		fuseOf(2),
		mended,
	}
}

// everyOrder tries all orders of so many calls, each on a copy, so that one order is not seen by the others.
func everyOrder(t *testing.T, p *pair, calls int) {
	if calls == 0 {
		return
	}
	for _, c := range p.next() {
		everyOrder(t, p.copied().do(t, c), calls-1)
	}
	p.stands(t, "calls of its copies")
}

func TestEveryOrder(t *testing.T) {
	everyOrder(t, pairOf(t), 4)
	everyOrder(t, pairOf(t, append(allBlocks([]byte{1}, long(2)), make([]byte, size))...), 4)
	everyOrder(t, pairOf(t, allBlocks(long(3))[:2]...).do(t, fuseOf(1)), 4)
	everyOrder(t, pairOf(t, allBlocks(long(2), nil)...).do(t, fuseOf(0), trimmed(0)), 4)
}

// Without copies: the disk itself goes through each order.
func TestEveryOrderAnew(t *testing.T) {
	choices := len(pairOf(t).next())
	for order := range choices * choices * choices * choices {
		p := pairOf(t, allBlocks([]byte{1})...)
		for range 4 {
			p.do(t, p.next()[order%choices])
			order /= choices
		}
	}
}

// steered is a call without any order, the same one each time.
func (p *pair) steered(a uint64) call {
	many, rest := len(p.by.list), int(a>>8%1000)
	switch a % 32 {
	case 0:
		return trimmed(max(0, many-rest%4))
	case 1:
		return trimmed(rest % (many + 1))
	case 2, 3:
		return written(blocksBy(long(2 + rest%3))[rest%2])
	case 4:
		return written(make([]byte, size))
	case 5, 6, 7:
		return fuseOf(rest % 9)
	case 8:
		return fuseOf(math.MaxInt)
	case 9, 10, 11, 12, 13:
		return mended
	case 14, 15, 16, 17, 18, 19:
		return opened
	case 20:
		return appended(tooLong()[0])
	case 21:
		return appended(make([]byte, rest%100))
	case 22:
		return appended(slices.Concat(allBlocks(nil, long(2))...))
	}
	return appended(sample.Bytes(rest, rest%120))
}

func TestLongOrders(t *testing.T) {
	for from := range 6 {
		p := pairOf(t)
		answers, most := map[api.Errno]int{}, 0
		for _, a := range sample.Scattered(api.Large, 1200+from)[from:] {
			c := p.steered(a)
			by := p.by
			l, e := by.done(c)
			answers[e]++
			most = max(most, len(l))
			p.do(t, c)
		}
		if answers[0] < 500 || answers[4] < 20 || answers[220] < 60 || most < 5 {
			t.Errorf("1200 calls answer %v, and at the most %d records", answers, most)
		}
	}
}

// At the limit, too.
func TestLongOrdersOfFullDisks(t *testing.T) {
	records := [][]byte{make([]byte, mostBytes), sample.Bytes(1, mostBytes-5*size)}
	p := pairOf(t, allBlocks(records...)...)
	answers := map[api.Errno]int{}
	for i, a := range sample.Scattered(api.Large, 80) {
		c := p.steered(a)
		switch {
		case c.kind == trim:
			c.many = max(c.many, len(p.by.list)-3)
		case i%9 == 0:
			c = fuseOf(1 + i%5)
		}
		by := p.by
		_, e := by.done(c)
		answers[e]++
		p.do(t, c)
	}
	if answers[0] < 20 || answers[4] < 8 || answers[220] < 5 {
		t.Errorf("80 calls answer %v", answers)
	}
}

// What stands on the disk already is neither read nor changed by Append: any blocks may.
func TestAppendHangsOnNoBlocks(t *testing.T) {
	for _, none := range noRecords() {
		p := pairOf(t, none...)
		p.do(t, appended([]byte{1}), appended(long(4)), opened, opened, appended(long(2)), appended(nil), opened)
		if !bytes.Equal(p.d.Blocks()[0], blocksBy(long(2))[0]) {
			t.Errorf("behind %s: %s", briefly(none), briefly(p.d.Blocks()))
		}
	}
}
