package journal

// Rule 5: what is handed in stays as it is, and what is answered is shared with nothing.

import (
	"slices"
	"testing"

	"conclave/api"
	"conclave/disk"
	"conclave/sample"
)

func TestMemoryOfRecords(t *testing.T) {
	calls := map[string]func(h [][]byte) [][]byte{
		"Size":               func(h [][]byte) [][]byte { Size(h[0]); return nil },
		"Records of no disk": func(h [][]byte) [][]byte { l, _ := Records(h...); return l },
		"Append": func(h [][]byte) [][]byte {
			d := disk.New()
			Append(d, h[0])
			Append(d, h[1])
			Append(d, h[0])
			return d.Blocks()
		},
		"Append on a disk that is not there": func(h [][]byte) [][]byte {
			Append(nil, h[0])
			Append(&disk.Disk{}, h[1])
			return nil
		},
		"Append that is cut": func(h [][]byte) [][]byte {
			d := disk.New()
			d.Fuse(1)
			Append(d, h[0])
			Append(d, h[1])
			return d.Blocks()
		},
		"Open": func(h [][]byte) [][]byte {
			d := disk.New()
			Append(d, h[0])
			Append(d, h[1])
			d.Write(make([]byte, size))
			one, _ := Open(d)
			other, _ := Open(d)
			return slices.Concat(one, other, d.Blocks())
		},
		"Records": func(h [][]byte) [][]byte {
			d := disk.New()
			Append(d, h[0])
			Append(d, h[1])
			blocks := d.Blocks()
			one, _ := Records(blocks...)
			other, _ := Records(blocks...)
			return slices.Concat(one, other, blocks)
		},
	}
	for i, r := range records() {
		if len(r) > 400 {
			continue
		}
		for what, do := range calls {
			if wrong := sample.Apart(do, r, sample.Bytes(i, 3*i)); wrong != "" {
				t.Errorf("%s of %s: %s", what, brief(r), wrong)
			}
		}
	}
}

func TestMemoryOfLongRecords(t *testing.T) {
	do := func(h [][]byte) [][]byte {
		d := disk.New()
		Append(d, h[0])
		Size(h[0])
		l, _ := Open(d)
		return l
	}
	for _, many := range []int{65536, mostBytes, mostBytes + 1} {
		if wrong := sample.Apart(do, sample.Bytes(1, many)); wrong != "" {
			t.Errorf("a record of %d bytes: %s", many, wrong)
		}
	}
}

func TestMemoryOfBlocks(t *testing.T) {
	do := func(h [][]byte) [][]byte { l, _ := Records(h...); return l }
	for _, all := range lists() {
		for _, behind := range slices.Concat(noRecords(), [][][]byte{nil, other()}) {
			handed := slices.Concat(allBlocks(all...), behind)
			if wrong := sample.Apart(do, handed...); wrong != "" {
				t.Errorf("Records(%s): %s", briefly(handed), wrong)
			}
		}
	}
}

// The list of blocks itself, and the room behind it, stays as it is too.
func TestListOfBlocksStays(t *testing.T) {
	for _, all := range lists() {
		for _, behind := range [][][]byte{nil, {{1}}, {make([]byte, size)}, allBlocks([]byte{4})} {
			whole := slices.Concat(allBlocks(all...), behind, allBlocks(nil, []byte{1}))
			before := slices.Clone(whole)
			for many := range whole {
				Records(whole[:many]...)
				if !same(whole, before) {
					t.Fatalf("Records(%s) makes %s of it", briefly(before[:many]), briefly(whole))
				}
			}
		}
	}
}

// What a caller writes over in a record that it handed in is not seen by the disk.
func TestRecordsHandedIn(t *testing.T) {
	for many := range 60 {
		whole := sample.Bytes(many, 2*many+40)
		record := whole[:many]
		p := pairOf(t).do(t, appended(slices.Clone(record)), appended(record))
		sample.Scribble(whole)
		p.stands(t, "writing over what was appended")
		p.do(t, appended(record), opened)
		sample.Scribble(whole)
		p.stands(t, "writing over what was appended again")
		p.do(t, appended(nil), opened)
	}
}

// What a caller writes over in what it was told is not seen by the disk, nor by what was told ahead.
func TestRecordsAnswered(t *testing.T) {
	for _, all := range lists() {
		for _, behind := range append(noRecords(), nil) {
			p := pairOf(t, slices.Concat(allBlocks(all...), behind)...)
			blocks := p.d.Blocks()
			told, _ := Records(blocks...)
			sample.ScribbleLists(blocks)
			if !same(told, all) {
				t.Errorf("writing over blocks makes %s of records", briefly(told))
			}
			p.stands(t, "writing over blocks")
			p.do(t, opened)
			one, _ := Open(p.d)
			other, _ := Open(p.d)
			sample.ScribbleLists(one)
			if !same(other, all) || !same(told, all) {
				t.Errorf("writing over records makes %s of others", briefly(other))
			}
			p.stands(t, "writing over what Open told")
			sample.ScribbleLists(told)
			p.do(t, opened, appended([]byte{1}), opened)
			if !same(other, all) {
				t.Errorf("calls make %s of what Open told", briefly(other))
			}
		}
	}
}

// What stands behind the end of a record that was told is no record's.
func TestMoreBehindRecordsAnswered(t *testing.T) {
	for _, all := range lists() {
		p := pairOf(t, allBlocks(all...)...)
		l, _ := Open(p.d)
		for i := range l {
			_ = append(l[i], sample.Bytes(1, 40)...)
			if !same(l, all) {
				t.Errorf("putting more behind the record %d leaves %s", i, briefly(l))
			}
		}
		p.stands(t, "putting more behind what Open told")
	}
}

// The disk that is handed in is the very one: what is done with it in other ways is seen, and a copy goes its own way.
func TestTheVeryDisk(t *testing.T) {
	d := disk.New()
	wantError(t, "Append", Append(d, []byte{1}), 0)
	c := d.Copy()
	wantError(t, "Append", Append(d, []byte{2}), 0)
	wantError(t, "Append", Append(c, []byte{3}), 0)
	wantOpen(t, d, [][]byte{{1}, {2}}, 0)
	wantOpen(t, c, [][]byte{{1}, {3}}, 0)
	wantError(t, "Trim", d.Trim(1), 0)
	wantOpen(t, d, [][]byte{{1}}, 0)
	wantError(t, "Write", d.Write(blocksBy([]byte{4})[0]), 0)
	wantOpen(t, d, [][]byte{{1}, {4}}, 0)
	wantOpen(t, c, [][]byte{{1}, {3}}, 0)
}

// Journals of several disks are used at once, and hang on their own disks alone.
func TestJournalsAtOnce(t *testing.T) {
	ended := make(chan bool)
	p := pairOf(t, allBlocks([]byte{1}, long(3))...)
	for from := range 4 {
		own, copied := pairOf(t), p.copied()
		go func() {
			defer func() { ended <- true }()
			for _, a := range sample.Scattered(api.Large, 200+from)[from:] {
				own.do(t, own.steered(a))
				copied.do(t, copied.steered(a/7))
			}
		}()
	}
	for range 4 {
		<-ended
	}
	p.stands(t, "calls of its copies")
}
