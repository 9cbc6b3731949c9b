package journal

// P23.1 and P23.2: what each call answers, and the chapter's examples.

import (
	"bytes"
	"encoding/binary"
	"fmt"
	"hash/fnv"
	"math"
	"slices"
	"testing"

	"conclave/api"
	"conclave/disk"
	"conclave/sample"
)

// The limits, as the document writes them.
const (
	size       = 32
	mostBytes  = 1048576
	mostBlocks = 65536
)

// By the words of the chapters 8 and 23, with the library's numbers and sums, which the program may not use.

func pieceBy(record []byte) []byte {
	piece := binary.BigEndian.AppendUint32(nil, uint32(len(record)))
	piece = append(piece, record...)
	h := fnv.New64a()
	h.Write(piece)
	return h.Sum(piece)
}

// cut are blocks of some bytes, with noughts behind.
func cut(b []byte) [][]byte {
	b = slices.Clone(b)
	for len(b)%size != 0 {
		b = append(b, 0)
	}
	return slices.Collect(slices.Chunk(b, size))
}

func blocksBy(record []byte) [][]byte { return cut(pieceBy(record)) }

// allBlocks are the blocks of some records, one behind the other.
func allBlocks(records ...[]byte) [][]byte {
	var l [][]byte
	for _, r := range records {
		l = append(l, blocksBy(r)...)
	}
	return l
}

// firstBy is the record whose blocks stand first: what would be one is taken from where it would stand, and held against its blocks.
func firstBy(blocks [][]byte) (record []byte, ok bool) {
	if len(blocks) == 0 || len(blocks[0]) != size {
		return nil, false
	}
	many := int(binary.BigEndian.Uint32(blocks[0]))
	if many > mostBytes || 4+many+8 > size*len(blocks) {
		return nil, false
	}
	var whole []byte
	for _, b := range blocks {
		if len(whole) >= 4+many {
			break
		}
		if len(b) != size {
			return nil, false
		}
		whole = append(whole, b...)
	}
	record = whole[4 : 4+many]
	by := blocksBy(record)
	return record, slices.EqualFunc(by, blocks[:len(by)], bytes.Equal)
}

func recordsBy(blocks [][]byte) (l [][]byte, whole int) {
	for {
		record, ok := firstBy(blocks[whole:])
		if !ok {
			return l, whole
		}
		l = append(l, record)
		whole += len(blocksBy(record))
	}
}

// lengths are numbers of bytes at which a record's blocks become one more, some between, and the most.
var lengths = []int{0, 1, 2, 3, 19, 20, 21, 22, 31, 32, 33, 51, 52, 53, 54, 64, 83, 84, 85, 300, 1012, 1013, 65536}

// records are none, such as have no bytes, noughts alone, and such as are blocks, pieces, records themselves.
func records() [][]byte {
	l := [][]byte{nil, {}, {0}, {255}, {1, 2, 3}, pieceBy(nil), pieceBy([]byte{1, 2, 3}), slices.Concat(blocksBy(sample.Bytes(3, 40))...), {0, 0, 0, 0}, {0, 0, 0, 1}}
	for _, n := range lengths {
		l = append(l, sample.Bytes(n%5, n), make([]byte, n), bytes.Repeat([]byte{255}, n), bytes.Repeat([]byte{1}, n))
	}
	return l
}

// brief tells bytes that may be many.
func brief(b []byte) string { return fmt.Sprintf("%.6x of %d bytes", b, len(b)) }

func briefly(l [][]byte) string {
	s := fmt.Sprintf("%d:", len(l))
	for _, b := range l[:min(len(l), 12)] {
		s += " " + brief(b) + ";"
	}
	return s
}

func same(a, b [][]byte) bool { return slices.EqualFunc(a, b, bytes.Equal) }

func wantError(t *testing.T, what string, e, want api.Errno) {
	t.Helper()
	if e != want {
		t.Errorf("%s: %d, not %d", what, e, want)
	}
}

func wantBlocks(t *testing.T, d *disk.Disk, want ...[]byte) {
	t.Helper()
	if got := d.Blocks(); !same(got, want) {
		t.Errorf("Blocks() = %s, not %s", briefly(got), briefly(want))
	}
}

func wantCount(t *testing.T, d *disk.Disk, count int, isCut bool) {
	t.Helper()
	if d.Count() != count || d.Cut() != isCut {
		t.Errorf("Count() = %d, Cut() = %t, not %d, %t", d.Count(), d.Cut(), count, isCut)
	}
}

// wantRecords has Records of the blocks tell these, and so many blocks; and as many as the words do.
func wantRecords(t *testing.T, blocks, want [][]byte, whole int) {
	t.Helper()
	if by, many := recordsBy(blocks); !same(by, want) || many != whole {
		t.Fatalf("by the words of the blocks %s the records are %s, in %d, not %s, in %d", briefly(blocks), briefly(by), many, briefly(want), whole)
	}
	wantRead(t, blocks)
}

// wantRead has Records of the blocks tell what the words do.
func wantRead(t *testing.T, blocks [][]byte) {
	t.Helper()
	want, whole := recordsBy(blocks)
	if l, many := Records(blocks...); !same(l, want) || many != whole {
		t.Errorf("Records(%s) = %s, in %d, not %s, in %d", briefly(blocks), briefly(l), many, briefly(want), whole)
	}
}

func wantOpen(t *testing.T, d *disk.Disk, want [][]byte, e api.Errno) {
	t.Helper()
	if l, got := Open(d); !same(l, want) || got != e {
		t.Errorf("Open = %s, %d, not %s, %d", briefly(l), got, briefly(want), e)
	}
}

// filled is a disk with these blocks.
func filled(t *testing.T, blocks ...[]byte) *disk.Disk {
	t.Helper()
	d := disk.New()
	for i, b := range blocks {
		if e := d.Write(b); e != 0 {
			t.Fatalf("Write of the block %d: %d", i, e)
		}
	}
	return d
}

// long is a record of so many blocks.
func long(blocks int) []byte { return sample.Bytes(blocks%7, blocks*size-12) }

func TestExamples(t *testing.T) {
	for many, want := range map[int]int{0: 1, 20: 1, 21: 2} {
		if got := Size(make([]byte, many)); got != want {
			t.Errorf("Size(%d bytes) = %d, not %d", many, got, want)
		}
	}
	d := disk.New()
	wantError(t, "Append", Append(d, []byte{1, 2, 3}), 0)
	wantRecords(t, d.Blocks(), [][]byte{{1, 2, 3}}, 1)
	wantRecords(t, nil, nil, 0)
	d = disk.New()
	wantError(t, "Fuse", d.Fuse(1), 0)
	wantError(t, "Append", Append(d, make([]byte, 21)), 220)
	wantError(t, "Mend", d.Mend(), 0)
	wantOpen(t, d, nil, 0)
	wantBlocks(t, d)
}

// A record's blocks, byte by byte.
func TestBlocksByHand(t *testing.T) {
	d := disk.New()
	wantError(t, "Append", Append(d, nil), 0)
	none := d.Blocks()[0]
	// The form of 0, the sum of it, noughts.
	if !bytes.Equal(none[:4], make([]byte, 4)) || !bytes.Equal(none[4:12], []byte{0x4d, 0x25, 0x76, 0x7f, 0x9d, 0xce, 0x13, 0xf5}) || !bytes.Equal(none[12:], make([]byte, 20)) {
		t.Errorf("the block of a record of no bytes is %x", none)
	}
	wantError(t, "Append", Append(d, bytes.Repeat([]byte{7}, 25)), 0)
	l := d.Blocks()
	if len(l) != 3 {
		t.Fatalf("Blocks() = %x", l)
	}
	if !bytes.Equal(l[1][:4], []byte{0, 0, 0, 25}) || !bytes.Equal(l[1][4:29], bytes.Repeat([]byte{7}, 25)) || !bytes.Equal(l[2][5:], make([]byte, 27)) {
		t.Errorf("the blocks of 25 times 7 are %x", l[1:])
	}
}

// P23.1

func TestSize(t *testing.T) {
	for many, want := range map[int]int{0: 1, 1: 1, 19: 1, 20: 1, 21: 2, 22: 2, 51: 2, 52: 2, 53: 3, 84: 3, 85: 4, mostBytes - 1: 32769, mostBytes: 32769, mostBytes + 1: 32769, mostBytes + 20: 32769, mostBytes + 21: 32770, 2 * mostBytes: 65537} {
		if got := Size(make([]byte, many)); got != want {
			t.Errorf("Size(%d bytes) = %d, not %d", many, got, want)
		}
	}
	for many := range 500 {
		for _, r := range [][]byte{make([]byte, many), sample.Bytes(1, many), make([]byte, many, many+100)} {
			if got, want := Size(r), len(blocksBy(r)); got != want {
				t.Errorf("Size(%s) = %d, not %d", brief(r), got, want)
			}
		}
	}
	if Size(nil) != 1 || Size([]byte{}) != 1 {
		t.Errorf("Size(none) = %d, %d", Size(nil), Size([]byte{}))
	}
}

func TestAppend(t *testing.T) {
	for _, r := range records() {
		d := disk.New()
		wantError(t, "Append of "+brief(r), Append(d, r), 0)
		wantBlocks(t, d, blocksBy(r)...)
		wantCount(t, d, Size(r), false)
		wantRecords(t, d.Blocks(), [][]byte{r}, Size(r))
		wantOpen(t, d, [][]byte{r}, 0)
		wantBlocks(t, d, blocksBy(r)...)
		wantCount(t, d, Size(r), false)
	}
}

func TestAppendOfEachLength(t *testing.T) {
	d := disk.New()
	var all [][]byte
	for many := range 300 {
		r := sample.Bytes(many, many)
		wantError(t, "Append of "+brief(r), Append(d, r), 0)
		all = append(all, r)
	}
	l := allBlocks(all...)
	wantBlocks(t, d, l...)
	wantCount(t, d, len(l), false)
	wantRecords(t, l, all, len(l))
}

func TestAppendOneBehindTheOther(t *testing.T) {
	d := disk.New()
	all := records()
	for i, r := range all {
		wantError(t, "Append of "+brief(r), Append(d, r), 0)
		l := allBlocks(all[:i+1]...)
		wantBlocks(t, d, l...)
		wantRecords(t, l, all[:i+1], len(l))
	}
	wantOpen(t, d, all, 0)
}

// What stands behind a record's end is no part of it.
func TestAppendOfPieces(t *testing.T) {
	whole := sample.Bytes(2, 200)
	for from := range 5 {
		for end := from; end < 100; end++ {
			one, other := disk.New(), disk.New()
			wantError(t, "Append", Append(one, whole[from:end]), 0)
			wantError(t, "Append", Append(other, slices.Clone(whole[from:end])), 0)
			wantBlocks(t, one, other.Blocks()...)
		}
	}
}

// A record stands behind whatever is there, also where it is not read then.
func TestAppendBehindWhatIsNoRecord(t *testing.T) {
	for _, ahead := range noRecords() {
		d := filled(t, ahead...)
		wantError(t, "Append", Append(d, []byte{5}), 0)
		wantBlocks(t, d, append(slices.Clone(ahead), blocksBy([]byte{5})...)...)
		wantRead(t, d.Blocks())
	}
}

func TestMostBytes(t *testing.T) {
	for _, r := range [][]byte{sample.Bytes(1, mostBytes), make([]byte, mostBytes), sample.Bytes(2, mostBytes-1)} {
		d := filled(t, blocksBy(nil)...)
		wantError(t, "Append of "+brief(r), Append(d, r), 0)
		wantError(t, "Append", Append(d, []byte{1}), 0)
		l := allBlocks(nil, r, []byte{1})
		wantBlocks(t, d, l...)
		wantCount(t, d, 32771, false)
		wantRecords(t, l, [][]byte{nil, r, {1}}, 32771)
		wantOpen(t, d, [][]byte{nil, r, {1}}, 0)
	}
}

// As many as a disk takes.
func TestMostRecords(t *testing.T) {
	d := disk.New()
	want := make([][]byte, mostBlocks)
	for i := range want {
		want[i] = binary.BigEndian.AppendUint32(nil, uint32(i))[i%5:]
		if e := Append(d, want[i]); e != 0 {
			t.Fatalf("Append of the record %d: %d", i, e)
		}
	}
	wantRecords(t, d.Blocks(), want, mostBlocks)
	wantOpen(t, d, want, 0)
	wantCount(t, d, mostBlocks, false)
}

// More blocks than a disk takes are records all the same.
func TestRecordsOfMoreThanADisk(t *testing.T) {
	all := [][]byte{sample.Bytes(1, mostBytes), sample.Bytes(2, mostBytes), {3}, sample.Bytes(4, mostBytes)}
	wantRecords(t, allBlocks(all...), all, 3*32769+1)
	wantRecords(t, allBlocks(all...)[:3*32769], all[:3], 2*32769+1)
}

func TestRecordsOfNone(t *testing.T) {
	for _, none := range [][][]byte{nil, {}, {nil}, {{}}, {nil, nil}, {make([]byte, 31)}, {make([]byte, 33)}} {
		wantRecords(t, none, nil, 0)
	}
	if l, whole := Records(); len(l) != 0 || whole != 0 {
		t.Errorf("Records() = %s, in %d", briefly(l), whole)
	}
}

// lists are records, one behind the other: none, one, many, such as are like each other.
func lists() [][][]byte {
	l := [][][]byte{nil, {nil}, {{1}}, {nil, nil, nil}, {{1, 2, 3}, long(1), long(2)}, {long(3), nil, long(3), {0}}, {make([]byte, 20), make([]byte, 21), make([]byte, 52), make([]byte, 53)}}
	var each [][]byte
	for _, n := range []int{53, 0, 20, 21, 1, 52, 19, 51, 100} {
		each = append(each, sample.Bytes(n%4, n))
	}
	return append(l, each, slices.Repeat([][]byte{long(2)}, 7), slices.Repeat([][]byte{nil}, 20))
}

func TestRecords(t *testing.T) {
	for _, all := range lists() {
		l := allBlocks(all...)
		wantRecords(t, l, all, len(l))
		// Those of the first blocks are the ones that are there whole.
		for many := range l {
			wantRead(t, l[:many])
			wantRead(t, l[many:])
		}
	}
}

// noRecords are blocks with which no record's blocks begin: such as are no blocks, parts of a record's, ones with a wrong count, a wrong sum, something behind the piece.
func noRecords() [][][]byte {
	part := blocksBy(sample.Bytes(3, 90))
	l := [][][]byte{
		{make([]byte, size)},
		{bytes.Repeat([]byte{255}, size)},
		{sample.Bytes(1, size)},
		part[:1],
		part[:len(part)-1],
		part[1:],
		part[len(part)-1:],
		{part[1], part[0], part[2], part[3]},
		slices.Repeat(part[:1], 6),
		cut(append(pieceBy(nil), 1)),
		cut(append(pieceBy([]byte{1, 2, 3}), 0, 0, 1)),
		{append(pieceBy(nil), slices.Repeat([]byte{255}, 20)...)},
	}
	for _, many := range []uint32{1, 20, 21, 1 << 20, 1<<20 + 1, 1<<31 - 1, 1 << 31, 1<<32 - 1} {
		l = append(l, [][]byte{append(binary.BigEndian.AppendUint32(nil, many), make([]byte, size-4)...)})
	}
	for _, wrong := range [][]byte{nil, {9}, sample.Bytes(1, 30)} {
		piece := pieceBy(wrong)
		piece[len(piece)-1] ^= 1
		l = append(l, cut(piece))
	}
	return l
}

func TestWhatEndsTheRecords(t *testing.T) {
	for _, all := range lists() {
		ahead := allBlocks(all...)
		for _, none := range noRecords() {
			wantRecords(t, slices.Concat(ahead, none), all, len(ahead))
			// What is behind is not read, whatever it is.
			wantRecords(t, slices.Concat(ahead, none, allBlocks([]byte{1}, long(5))), all, len(ahead))
		}
	}
}

// other are lists of bytes that are no blocks: of no bytes, one fewer, one more, two blocks'.
func other() [][]byte {
	return [][]byte{nil, {}, {0}, make([]byte, 12), pieceBy(nil), make([]byte, size-1), make([]byte, size+1), append(blocksBy([]byte{1})[0], 0), make([]byte, 2*size), make([]byte, 0, size), make([]byte, size-1, size)}
}

// Blocks that are none end the records ahead of, between, within and behind a record's blocks.
func TestBlocksOfOtherLengths(t *testing.T) {
	for _, all := range lists() {
		l := allBlocks(all...)
		for at := range len(l) + 1 {
			// The records that are there whole ahead of it.
			want, whole := recordsBy(l[:at])
			for _, b := range other() {
				wantRecords(t, slices.Insert(slices.Clone(l), at, b), want, whole)
				if at < len(l) {
					put := slices.Clone(l)
					put[at] = b
					wantRecords(t, put, want, whole)
				}
			}
			if at < len(l) {
				for _, b := range [][]byte{l[at][:size-1], l[at][1:], append(slices.Clone(l[at]), 0), append([]byte{0}, l[at]...)} {
					put := slices.Clone(l)
					put[at] = b
					wantRecords(t, put, want, whole)
				}
			}
		}
	}
}

// A record's bytes in blocks of another length are no record: not together either.
func TestBytesInOtherBlocks(t *testing.T) {
	whole := slices.Concat(allBlocks(long(3), nil, []byte{7})...)
	for many := 1; many <= len(whole); many++ {
		l := slices.Collect(slices.Chunk(whole, many))
		if many == size {
			wantRecords(t, l, [][]byte{long(3), nil, {7}}, 5)
		} else {
			wantRecords(t, l, nil, 0)
		}
	}
}

// One block of a record is left out, stands twice, or is another one's.
func TestBlocksInAnotherOrder(t *testing.T) {
	all := [][]byte{{1}, long(4), {2}}
	l := allBlocks(all...)
	for i := 1; i < 5; i++ {
		wantRecords(t, slices.Delete(slices.Clone(l), i, i+1), all[:1], 1)
		wantRecords(t, slices.Insert(slices.Clone(l), i, make([]byte, size)), all[:1], 1)
		if i < 4 {
			wantRecords(t, slices.Insert(slices.Clone(l), i, l[i]), all[:1], 1)
		}
		for j := 1; j < i; j++ {
			turned := slices.Clone(l)
			turned[i], turned[j] = turned[j], turned[i]
			wantRecords(t, turned, all[:1], 1)
		}
	}
	// The last block once more stands behind the record.
	wantRecords(t, slices.Insert(slices.Clone(l), 4, l[4]), all[:2], 5)
}

// turns are what one byte may be put against, to be another one.
var turns = []byte{1, 2, 4, 8, 16, 32, 64, 128, 255}

// One byte turned, at each place of a record's blocks, never leaves the record told as it was; those ahead of it are.
func TestOneByteTurned(t *testing.T) {
	for _, r := range [][]byte{nil, {0}, {255}, sample.Bytes(1, 19), sample.Bytes(1, 20), sample.Bytes(1, 21), make([]byte, 20), make([]byte, 21), sample.Bytes(1, 51), sample.Bytes(1, 52), sample.Bytes(1, 53), make([]byte, 53), pieceBy(nil), long(6)} {
		for _, ahead := range [][][]byte{nil, {nil}, {long(2), {1}}} {
			l := allBlocks(slices.Concat(ahead, [][]byte{r, {4}, nil})...)
			first := len(allBlocks(ahead...))
			for at := range Size(r) * size {
				for _, turn := range turns {
					turned := slices.Clone(l)
					block := slices.Clone(l[first+at/size])
					block[at%size] ^= turn
					turned[first+at/size] = block
					wantRecords(t, turned, ahead, first)
				}
			}
		}
	}
}

func TestOneByteTurnedOfTheLongest(t *testing.T) {
	l := allBlocks(long(2), sample.Bytes(3, mostBytes), nil)
	for _, at := range []int{0, 1, 3, 4, 5, 31, 32, 1000, 512 * 1024, mostBytes + 3, mostBytes + 4, mostBytes + 11, mostBytes + 12, mostBytes + 31} {
		turned := slices.Clone(l)
		turned[2+at/size] = slices.Clone(turned[2+at/size])
		turned[2+at/size][at%size] ^= 16
		wantRecords(t, turned, [][]byte{long(2)}, 2)
	}
}

// What has a right sum, but a count above the limit, ends the records, though all its blocks are there.
func TestMoreThanMostBytesOnTheDisk(t *testing.T) {
	for _, many := range []int{mostBytes + 1, mostBytes + 20, mostBytes + 21, 2 * mostBytes} {
		l := slices.Concat(allBlocks(nil, []byte{1}), blocksBy(make([]byte, many)), blocksBy(nil))
		wantRecords(t, l, [][]byte{nil, {1}}, 2)
	}
}

// A sum of other bytes than the number and the record's is another one.
func TestOtherSums(t *testing.T) {
	for _, r := range [][]byte{{1}, sample.Bytes(1, 20), sample.Bytes(1, 40)} {
		piece := pieceBy(r)
		end := len(piece) - 8
		sum := binary.BigEndian.Uint64(piece[end:])
		of := func(b []byte) uint64 { h := fnv.New64a(); h.Write(b); return h.Sum64() }
		for _, wrong := range []uint64{0, sum + 1, sum - 1, ^sum, of(r), of(nil), of(slices.Concat(blocksBy(r)...)), of(cut(piece[:end])[0])} {
			l := cut(binary.BigEndian.AppendUint64(slices.Clone(piece[:end]), wrong))
			wantRecords(t, slices.Concat(blocksBy(nil), l, blocksBy(nil)), [][]byte{nil}, 1)
		}
		wantRecords(t, cut(binary.LittleEndian.AppendUint64(slices.Clone(piece[:end]), sum)), nil, 0)
	}
}

// P23.2

func TestOpenWithNothingBehind(t *testing.T) {
	for _, all := range lists() {
		l := allBlocks(all...)
		for _, ahead := range []func(d *disk.Disk){
			func(d *disk.Disk) {},
			func(d *disk.Disk) { d.Fuse(0) },
			func(d *disk.Disk) { d.Fuse(3) },
			func(d *disk.Disk) { d.Fuse(0); d.Trim(0) },
		} {
			d := filled(t, l...)
			ahead(d)
			isCut := d.Cut()
			for range 3 {
				wantOpen(t, d, all, 0)
				wantBlocks(t, d, l...)
				wantCount(t, d, len(l), isCut)
			}
		}
	}
}

func TestOpenWithSomethingBehind(t *testing.T) {
	for _, all := range lists() {
		l := allBlocks(all...)
		for _, none := range noRecords() {
			for _, more := range [][][]byte{nil, allBlocks([]byte{1}, nil)} {
				behind := slices.Concat(l, none, more)
				d := filled(t, behind...)
				wantOpen(t, d, all, 0)
				wantBlocks(t, d, l...)
				wantCount(t, d, len(behind)+1, false)
				// Now there is nothing behind.
				wantOpen(t, d, all, 0)
				wantCount(t, d, len(behind)+1, false)
				wantError(t, "Append", Append(d, []byte{8}), 0)
				wantOpen(t, d, append(slices.Clone(all), []byte{8}), 0)
				wantCount(t, d, len(behind)+2, false)
			}
		}
	}
}

// The trim is one raw write, and takes one off the fuse.
func TestOpenWithAFuse(t *testing.T) {
	for _, all := range lists() {
		l := allBlocks(all...)
		for _, none := range noRecords() {
			behind := slices.Concat(l, none)
			for _, fuse := range []int{1, 2, math.MaxInt} {
				d := filled(t, behind...)
				wantError(t, "Fuse", d.Fuse(fuse), 0)
				wantOpen(t, d, all, 0)
				wantBlocks(t, d, l...)
				wantCount(t, d, len(behind)+1, false)
				for i := 1; i < min(fuse, 4); i++ {
					wantError(t, "Trim", d.Trim(len(l)), 0)
				}
				if fuse < 4 {
					wantError(t, "Trim", d.Trim(len(l)), 220)
				}
			}
		}
	}
}

func TestOpenWhereTheTrimIsRefused(t *testing.T) {
	for _, all := range lists() {
		l := allBlocks(all...)
		for _, none := range noRecords() {
			behind := slices.Concat(l, none)
			for _, ahead := range []func(d *disk.Disk){
				func(d *disk.Disk) { d.Fuse(0) },
				func(d *disk.Disk) { d.Fuse(0); d.Trim(0) },
				func(d *disk.Disk) { d.Fuse(0); d.Trim(0); d.Fuse(7) },
			} {
				d := filled(t, behind...)
				ahead(d)
				for range 3 {
					wantOpen(t, d, nil, 220)
					wantBlocks(t, d, behind...)
					wantCount(t, d, len(behind), true)
				}
				wantError(t, "Mend", d.Mend(), 0)
				wantOpen(t, d, all, 0)
				wantBlocks(t, d, l...)
				wantCount(t, d, len(behind)+1, false)
			}
		}
	}
}

// Part of a record, of each number of its blocks.
func TestOpenWithPartOfARecord(t *testing.T) {
	for _, all := range lists() {
		l := allBlocks(all...)
		part := blocksBy(sample.Bytes(5, 150))
		for many := 1; many < len(part); many++ {
			d := filled(t, slices.Concat(l, part[:many])...)
			wantOpen(t, d, all, 0)
			wantBlocks(t, d, l...)
			wantCount(t, d, len(l)+many+1, false)
		}
	}
}
