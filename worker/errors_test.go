package worker

// The errors, which of them comes first, and what a call that answers one leaves behind.

import (
	"math"
	"slices"
	"testing"

	"conclave/api"
	"conclave/disk"
	"conclave/journal"
	"conclave/sample"
)

// untouched are disks that a refused call leaves as they are: with nothing and with something behind their records, with a fuse, cut.
func untouched(t *testing.T) []*disk.Disk {
	t.Helper()
	share := written(t, few()[0].share(4, 11))
	var l []*disk.Disk
	for _, behind := range []int{0, 1} {
		for _, fuse := range []func(d *disk.Disk){mended, fuseOf(0), fuseOf(1), fuseOf(9), func(d *disk.Disk) { d.Fuse(0); d.Trim(0) }} {
			d := recorded(t, share)
			for range behind {
				d.Write(make([]byte, size))
			}
			fuse(d)
			l = append(l, d)
		}
	}
	return append(l, disk.New())
}

// stays has a call leave the disk as it was: its blocks, its count, whether its power is cut, its fuse.
func stays(t *testing.T, d *disk.Disk, do func()) {
	t.Helper()
	p := pair{d: d, by: plain{d: d.Copy()}}
	do()
	p.disksStand(t, "a refused call")
	p.d, p.by.d = d.Copy(), p.by.d.Copy()
	for range 11 {
		p.disks(t, func(d *disk.Disk) { d.Write(make([]byte, size)) })
	}
}

func wantErrArg(t *testing.T, o post) {
	t.Helper()
	for _, d := range untouched(t) {
		stays(t, d, func() { wantNew(t, o, d, 2) })
	}
	for _, d := range noDisks() {
		wantNew(t, o, d, 1)
	}
}

func noDisks() []*disk.Disk { return []*disk.Disk{nil, {}, new(disk.Disk)} }

func TestNoDisk(t *testing.T) {
	for _, o := range posts() {
		for _, d := range noDisks() {
			wantNew(t, o, d, 1)
			wantBlocks(t, d, 0, 0)
		}
	}
}

func TestNoPlan(t *testing.T) {
	for _, p := range sample.NoPlans() {
		for _, id := range []int{0, 1, p.N - 1, p.N, -1} {
			d := recorded(t, nil)
			d.Write(make([]byte, size))
			wantNew(t, post{p, square, id}, d, 2)
			wantNew(t, post{p, constant(p.Width%65, 1, 1), id}, d, 2)
			wantBlocks(t, d, 2, 2)
		}
	}
	for _, width := range []int{-1, 0, 65, math.MinInt, math.MaxInt} {
		p := example
		p.Width = width
		wantErrArg(t, post{p, square, 0})
		wantErrArg(t, post{p, constant(width, 1, 1), 0})
	}
}

// A plan that may be, but has too few workers, is ErrArg too; with just as many as it takes it is none.
func TestPlansThatAreNotAccepted(t *testing.T) {
	seen := map[bool]int{}
	for _, p := range sample.Plans() {
		seen[isAccepted(p)]++
		if isAccepted(p) {
			continue
		}
		for _, prog := range programs(p)[:2] {
			for _, id := range ends(p) {
				d := disk.New()
				wantNew(t, post{p, prog, id}, d, 2)
				wantBlocks(t, d, 0, 0)
			}
		}
	}
	if seen[true] < 40 || seen[false] < 40 {
		t.Errorf("the plans are accepted: %v", seen)
	}
	for _, c := range []struct{ k, t, s, e, degree, least int }{{2, 1, 0, 0, 2, 5}, {2, 1, 1, 0, 2, 6}, {2, 1, 0, 1, 2, 7}, {3, 1, 1, 2, 2, 12}, {1, 1, 0, 0, 1, 2}, {1, 0, 3, 4, 1024, 12}, {32, 32, 0, 0, 1, 64}} {
		for _, f := range sample.Fields() {
			p := sample.With(sample.Plan(c.least, c.k, c.t, c.s, c.e, c.degree), f, 2)
			few := p
			few.N--
			for _, prog := range programs(p) {
				wantNew(t, post{p, prog, few.N}, disk.New(), 0)
				wantNew(t, post{few, prog, 0}, disk.New(), 2)
			}
		}
	}
	few := example
	few.N = 4
	wantErrArg(t, post{few, square, 0})
}

func TestNoProgram(t *testing.T) {
	wide := sample.With(example, api.Large, 64)
	for _, prog := range sample.NoProgs() {
		for _, p := range []api.Plan{example, sample.With(example, api.Small, 2), wide} {
			wantNew(t, post{p, prog, 0}, disk.New(), 2)
		}
		if prog.Inputs >= 1 && prog.Inputs <= 64 {
			wantNew(t, post{sample.With(example, api.Small, prog.Inputs), prog, 0}, disk.New(), 2)
		}
	}
	cube := sample.Raise(3)
	for _, prog := range []api.Prog{{}, cube, sample.Squares(11), sample.Squares(200), constant(2, 1, 1), constant(0, 1, 1), constant(1, 1, 65), widened(square, 2)} {
		wantErrArg(t, post{example, prog, 0})
	}
}

// Each number of inputs with each Width, each degree with each Degree.
func TestProgramsThatFit(t *testing.T) {
	for _, f := range sample.Fields() {
		for _, width := range []int{1, 2, 3, 63, 64} {
			p := sample.With(example, f, width)
			for inputs := range 65 {
				want := api.ErrArg
				if inputs == width {
					want = 0
				}
				wantNew(t, post{p, constant(inputs, 5, 1), 1}, disk.New(), want)
			}
		}
		for most := range 8 {
			p := sample.With(sample.Plan(16, 2, 1, 0, 0, most), f, 1)
			for n := 1; n < 12; n++ {
				want := api.ErrArg
				if n <= most {
					want = 0
				}
				wantNew(t, post{p, sample.Raise(n), 15}, disk.New(), want)
			}
			wantNew(t, post{p, constant(1, 5, 1), 15}, disk.New(), 0)
		}
	}
}

// A program without Outs fits a plan, but is no worker's.
func TestNoOuts(t *testing.T) {
	for _, p := range accepted() {
		for _, prog := range programs(p) {
			for _, outs := range [][]int{nil, {}, make([]int, 0, 3)} {
				prog.Outs = outs
				wantNew(t, post{p, prog, 0}, disk.New(), 2)
			}
		}
	}
	for _, prog := range []api.Prog{{Inputs: 1}, {Inputs: 1, Ops: square.Ops}, {Inputs: 1, Outs: []int{}}} {
		wantErrArg(t, post{example, prog, 0})
	}
	for many := 1; many <= 64; many++ {
		o := post{example, constant(1, 9, many), 2}
		w := wantNew(t, o, disk.New(), 0)
		wantOn(t, w, written(t, o.share(0, 5)), written(t, api.Msg{Kind: 2, Worker: 2, Field: api.Small, Values: slices.Repeat([]uint64{9}, many)}), 0)
	}
}

func TestNoWorkersNumber(t *testing.T) {
	for _, p := range accepted() {
		prog := programs(p)[0]
		for _, id := range sample.NoWorkers(p) {
			wantNew(t, post{p, prog, id}, disk.New(), 2)
		}
		for _, id := range ends(p) {
			wantNew(t, post{p, prog, id}, disk.New(), 0)
		}
	}
	for _, id := range []int{-1, 5, 6, 63, 64} {
		wantErrArg(t, post{example, square, id})
	}
}

// All that may be wrong at once: the disk that is not there comes first, then what may not be, then the journal's error.
func TestNewManyFaulty(t *testing.T) {
	few := example
	few.N = 4
	none := post{few, api.Prog{Inputs: 3}, -1}
	for _, p := range []api.Plan{example, few, {}} {
		for _, prog := range []api.Prog{square, sample.Raise(3), {Inputs: 1}, {}} {
			for _, id := range []int{0, 4, -1, 5} {
				o := post{p, prog, id}
				fine := p == example && len(prog.Outs) == 1 && prog.Outs[0] == 1 && (id == 0 || id == 4)
				want := api.ErrArg
				if fine {
					want = 220
				}
				d := recorded(t, written(t, post{example, square, 0}.share(4, 1)))
				d.Write(make([]byte, size))
				d.Fuse(0)
				wantNew(t, o, d, want)
				wantBlocks(t, d, 3, 3)
				if d.Cut() != fine {
					t.Errorf("New of %s: Cut() = %t", o, d.Cut())
				}
				if !fine {
					wantErrArg(t, o)
				}
			}
		}
	}
	wantErrArg(t, none)
}

// noWorkers are workers that are not there.
func noWorkers() []*Worker { return []*Worker{nil, {}, new(Worker)} }

func TestNotThere(t *testing.T) {
	o := few()[0]
	for _, w := range noWorkers() {
		// More than once, since no call makes it be there.
		for range 2 {
			for _, b := range append(o.notFor(t, o.share(3, 11)), written(t, o.share(3, 11)), make([]byte, mostBytes+1)) {
				wantOn(t, w, b, nil, 1)
			}
			wantRounds(t, w)
			for _, round := range append(others(), 3) {
				wantShare(t, w, round)
			}
			wantDown(t, w, false)
		}
	}
}

// What is behind a refused write: the worker is down, tells what it held, and does nothing any more, also when the disk is mended.
func (p *pair) wantIsDown(t *testing.T, heard ...[]byte) {
	t.Helper()
	o := p.by.post
	wantDown(t, p.w, true)
	for _, fuse := range []func(d *disk.Disk){fuseOf(0), fuseOf(3), mended} {
		p.disks(t, fuse)
		stays(t, p.d, func() {
			for _, b := range append(heard, nil, []byte{1}, written(t, o.share(77, o.values(1)...)), written(t, api.Msg{Kind: 2, Field: 1}), make([]byte, mostBytes+1)) {
				wantOn(t, p.w, b, nil, 240)
			}
		})
		p.stands(t, "what a worker hears that is down")
	}
}

// Each raw write of the record is cut: behind any, it is held neither by this worker nor by the next, if its record did not stand whole.
func TestOnIsCut(t *testing.T) {
	for _, o := range few() {
		held, other := written(t, o.share(7, o.values(1)...)), written(t, o.share(7, o.values(2)...))
		b := written(t, o.share(4, o.values(1)...))
		for fuse := range journal.Size(b) + 2 {
			p := pairOf(t, o, disk.New()).on(t, held).disks(t, fuseOf(fuse))
			p.on(t, held).on(t, other).on(t, nil)
			wantDown(t, p.w, false)
			before := p.d.Count()
			p.on(t, b)
			if fuse >= journal.Size(b) {
				wantDown(t, p.w, false)
				wantRounds(t, p.w, 4, 7)
				continue
			}
			wantRounds(t, p.w, 7)
			wantShare(t, p.w, 4)
			wantBlocks(t, p.d, before+fuse, before+fuse)
			if !p.d.Cut() {
				t.Errorf("the power is not cut")
			}
			p.wantIsDown(t, held, other, b)
			// Now it is mended.
			p.anew(t)
			wantDown(t, p.w, false)
			wantRounds(t, p.w, 7)
			p.hears(t, 4, o.values(2)...).on(t, b).on(t, held)
			wantRounds(t, p.w, 4, 7)
		}
	}
}

// The disk as it is, its power cut: the next worker is made of it if no raw write of the record succeeded, and goes down with the next record.
func TestMadeAnewWhileCut(t *testing.T) {
	for _, o := range few() {
		held, b := written(t, o.share(7, o.values(1)...)), written(t, o.share(4, o.values(1)...))
		for fuse := range journal.Size(b) {
			p := pairOf(t, o, disk.New()).on(t, held).disks(t, fuseOf(fuse)).on(t, b)
			down := p.w
			p.anew(t)
			if made := p.w != down; made != (fuse == 0) {
				t.Errorf("with %d raw writes: made anew: %t", fuse, made)
			}
			p.on(t, held).on(t, b).on(t, held)
			p.wantIsDown(t, held, b)
			p.anew(t)
			p.on(t, held).on(t, b)
			wantRounds(t, p.w, 4, 7)
		}
	}
}

// withRoomFor is a disk that takes so many more blocks, all others of which are records'.
func withRoomFor(t *testing.T, blocks int, records ...[]byte) *disk.Disk {
	t.Helper()
	d := recorded(t, records...)
	for left := mostBlocks - blocks - d.Count(); left > 0; left = mostBlocks - blocks - d.Count() {
		if e := journal.Append(d, make([]byte, min(mostBytes, left*size-12))); e != 0 {
			t.Fatalf("Append with %d blocks left: %d", left, e)
		}
	}
	return d
}

// A disk that is full, or gets full within the record.
func TestOnOfFullDisks(t *testing.T) {
	for _, o := range few() {
		held, other := written(t, o.share(7, o.values(1)...)), written(t, o.share(7, o.values(2)...))
		b := written(t, o.share(4, o.values(1)...))
		takes := journal.Size(b)
		for _, room := range []int{0, 1, takes - 1, takes} {
			p := pairOf(t, o, withRoomFor(t, room, held))
			blocks := mostBlocks - room
			p.on(t, held).on(t, other).on(t, nil)
			wantDown(t, p.w, false)
			if room == takes {
				p.on(t, b).on(t, b)
				wantRounds(t, p.w, 4, 7)
				wantDown(t, p.w, false)
				p.hears(t, 5, o.values(1)...)
				wantDown(t, p.w, true)
				continue
			}
			wantOn(t, p.w, b, nil, 4)
			p.by.on(t, b)
			wantBlocks(t, p.d, mostBlocks, mostBlocks)
			wantRounds(t, p.w, 7)
			wantDown(t, p.w, true)
			wantOn(t, p.w, held, nil, 240)
			wantOn(t, p.w, nil, nil, 240)
			p.anew(t)
			wantBlocks(t, p.d, blocks, mostBlocks+min(1, room))
			wantRounds(t, p.w, 7)
			p.on(t, held).on(t, b)
			wantDown(t, p.w, true)
		}
	}
}

// A full disk whose power is cut tells of that.
func TestOnOfFullDisksThatAreCut(t *testing.T) {
	o := few()[0]
	b := written(t, o.share(4, 5))
	for room := range 2 {
		for fuse, want := range []api.Errno{220, []api.Errno{4, 220}[room], 4, 4} {
			d := withRoomFor(t, room)
			w := wantNew(t, o, d, 0)
			d.Fuse(fuse)
			wantOn(t, w, b, nil, want)
			wantDown(t, w, true)
			if many := len(d.Blocks()); many != mostBlocks-room+min(room, fuse) {
				t.Errorf("%d blocks", many)
			}
		}
	}
}

// Which error of On comes first, by hand: each state of a worker, each kind of bytes.
func TestOnErrorsByHand(t *testing.T) {
	o := few()[0]
	held, other, fresh, none := written(t, o.share(7, 1)), written(t, o.share(7, 2)), written(t, o.share(4, 1)), written(t, post{example, square, 1}.share(7, 2))
	heard := [][]byte{held, other, fresh, none, nil}
	for i, c := range []struct {
		ready func(d *disk.Disk, w *Worker)
		want  []api.Errno
		down  []bool
	}{
		{func(d *disk.Disk, w *Worker) {}, []api.Errno{0, 6, 0, 8, 8}, []bool{false, false, false, false, false}},
		{func(d *disk.Disk, w *Worker) { d.Fuse(0) }, []api.Errno{0, 6, 220, 8, 8}, []bool{false, false, true, false, false}},
		{func(d *disk.Disk, w *Worker) { d.Fuse(1) }, []api.Errno{0, 6, 220, 8, 8}, []bool{false, false, true, false, false}},
		{func(d *disk.Disk, w *Worker) { d.Fuse(2) }, []api.Errno{0, 6, 0, 8, 8}, []bool{false, false, false, false, false}},
		{func(d *disk.Disk, w *Worker) { d.Fuse(0); d.Trim(0) }, []api.Errno{0, 6, 220, 8, 8}, []bool{false, false, true, false, false}},
		{func(d *disk.Disk, w *Worker) { d.Fuse(0); w.On(fresh) }, []api.Errno{240, 240, 240, 240, 240}, []bool{true, true, true, true, true}},
		{func(d *disk.Disk, w *Worker) { d.Fuse(1); w.On(fresh); d.Mend() }, []api.Errno{240, 240, 240, 240, 240}, []bool{true, true, true, true, true}},
		{func(d *disk.Disk, w *Worker) { d.Fuse(0); w.On(none); w.On(other); w.On(held) }, []api.Errno{0, 6, 220, 8, 8}, []bool{false, false, true, false, false}},
		{func(d *disk.Disk, w *Worker) { d.Trim(0) }, []api.Errno{0, 6, 0, 8, 8}, []bool{false, false, false, false, false}},
	} {
		for j, b := range heard {
			d := disk.New()
			w := wantNew(t, o, d, 0)
			wantOn(t, w, held, o.answerBy(t, o.share(7, 1)), 0)
			c.ready(d, w)
			out, e := w.On(b)
			if e != c.want[j] || (len(out) > 0) != (e == 0) || w.Down() != c.down[j] {
				t.Errorf("%d: On(%s) = %s, %d, not %d; Down() = %t", i, brief(b), brief(out), e, c.want[j], w.Down())
			}
			wantShare(t, w, 7, 1)
			if _, ok := w.Share(4); ok != (j == 2 && e == 0) {
				t.Errorf("%d: On(%s) = %d, and Share(4) is there: %t", i, brief(b), e, ok)
			}
		}
	}
}

// A worker that is refused nothing but bytes is never down.
func TestDown(t *testing.T) {
	for _, o := range few() {
		p := pairOf(t, o, disk.New())
		wantDown(t, p.w, false)
		for i := range 9 {
			p.hears(t, i/2, o.values(i)...).on(t, []byte{byte(i)})
			wantDown(t, p.w, false)
		}
		p.disks(t, fuseOf(0))
		wantDown(t, p.w, false)
		p.hears(t, 0, o.values(0)...).hears(t, 0, o.values(1)...)
		wantDown(t, p.w, false)
		p.hears(t, 50, o.values(0)...)
		wantDown(t, p.w, true)
		p.wantIsDown(t)
		wantDown(t, wantNew(t, o, p.d, 0), false)
		wantDown(t, p.w, true)
	}
}

// A worker's number, where others have the same disk: each holds its own alone.
func TestWorkersOfOneDisk(t *testing.T) {
	d := disk.New()
	var all []*Worker
	for id := range 5 {
		all = append(all, wantNew(t, post{example, square, id}, d, 0))
	}
	for round := range 3 {
		for id, w := range all {
			o := post{example, square, id}
			m := o.share(round, uint64(10*round+id))
			for other, v := range all {
				if other == id {
					wantOn(t, v, written(t, m), o.answerBy(t, m), 0)
				} else {
					wantOn(t, v, written(t, m), nil, 8)
				}
			}
			wantShare(t, w, round, m.Values...)
		}
	}
	for id := range 5 {
		w := wantNew(t, post{example, square, id}, d, 0)
		wantRounds(t, w, 0, 1, 2)
		for round := range 3 {
			wantShare(t, w, round, uint64(10*round+id))
		}
	}
}
