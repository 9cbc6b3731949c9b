package worker

// Rule 5: what is handed in stays as it is, what is answered is shared with nothing, and the disk is the very one.

import (
	"bytes"
	"slices"
	"testing"

	"conclave/api"
	"conclave/disk"
	"conclave/sample"
)

// answers are the bytes that a worker of that post, and one made anew, answer to all kinds of bytes, and what stands on the disk.
func (o post) answers(heard ...[]byte) [][]byte {
	d := disk.New()
	w, _ := New(o.p, o.prog, o.id, d)
	var l [][]byte
	for range 2 {
		for _, b := range heard {
			out, _ := w.On(b)
			again, _ := w.On(b)
			l = append(l, out, again)
		}
		w, _ = New(o.p, o.prog, o.id, d)
	}
	return append(l, d.Blocks()...)
}

func TestMemoryOfBytes(t *testing.T) {
	for _, o := range few() {
		do := func(h [][]byte) [][]byte { return o.answers(h...) }
		first, other := written(t, o.share(3, o.values(1)...)), written(t, o.share(3, o.values(2)...))
		if wrong := sample.Apart(do, first, other, nil, first[1:], written(t, o.share(4, o.values(2)...))); wrong != "" {
			t.Errorf("%s: %s", o, wrong)
		}
		refused := func(h [][]byte) [][]byte {
			d := disk.New()
			w, _ := New(o.p, o.prog, o.id, d)
			d.Fuse(1)
			w.On(h[0])
			w.On(h[0])
			(*Worker)(nil).On(h[0])
			(&Worker{}).On(h[0])
			return d.Blocks()
		}
		if wrong := sample.Apart(refused, first); wrong != "" {
			t.Errorf("%s, refused: %s", o, wrong)
		}
	}
}

func TestMemoryOfShares(t *testing.T) {
	for _, o := range few() {
		do := func(h [][]uint64) [][]uint64 {
			d := disk.New()
			w, _ := New(o.p, o.prog, o.id, d)
			w.On(written(t, o.share(3, h[0]...)))
			w.On(written(t, o.share(4, h[1]...)))
			again, _ := New(o.p, o.prog, o.id, d)
			var l [][]uint64
			for _, v := range []*Worker{w, w, again, again} {
				for _, round := range []int{3, 4, 5} {
					share, _ := v.Share(round)
					l = append(l, share)
				}
			}
			return l
		}
		if wrong := sample.Apart(do, o.values(1), o.values(2)); wrong != "" {
			t.Errorf("%s: %s", o, wrong)
		}
	}
}

func TestMemoryOfRounds(t *testing.T) {
	for _, o := range few() {
		do := func([][]int) [][]int {
			w, _ := New(o.p, o.prog, o.id, disk.New())
			l := [][]int{w.Rounds()}
			for round := range 5 {
				w.On(written(t, o.share(round*round, o.values(1)...)))
				l = append(l, w.Rounds(), w.Rounds())
			}
			return l
		}
		if wrong := sample.Apart(do); wrong != "" {
			t.Errorf("%s: %s", o, wrong)
		}
	}
}

func TestProgramsStay(t *testing.T) {
	for _, o := range posts() {
		do := func(progs []api.Prog) []api.Prog {
			w, e := New(o.p, progs[0], o.id, disk.New())
			if e != 0 {
				t.Errorf("New of %s: %d", o, e)
			}
			w.On(written(t, o.share(3, o.values(1)...)))
			New(o.p, progs[0], -1, disk.New())
			New(o.p, progs[0], o.id, nil)
			return nil
		}
		if wrong := sample.ApartProgs(do, o.prog); wrong != "" {
			t.Errorf("%s: %s", o, wrong)
		}
	}
}

// What a caller writes over in the program that it handed in is not seen by the worker: it answers as if nothing were.
func TestProgramsHandedIn(t *testing.T) {
	for _, o := range posts() {
		handed := api.Prog{Inputs: o.prog.Inputs, Ops: slices.Clone(o.prog.Ops), Outs: slices.Clone(o.prog.Outs)}
		first, second := o.share(3, o.values(1)...), o.share(5, o.values(2)...)
		w := wantNew(t, post{o.p, handed, o.id}, disk.New(), 0)
		wantOn(t, w, written(t, first), o.answerBy(t, first), 0)
		for i := range handed.Ops {
			handed.Ops[i] = api.Op{Kind: api.OConst, C: 4242}
		}
		wantOn(t, w, written(t, second), o.answerBy(t, second), 0)
		sample.Scribble(handed.Outs)
		clear(handed.Ops)
		for range 2 {
			wantOn(t, w, written(t, first), o.answerBy(t, first), 0)
			wantOn(t, w, written(t, second), o.answerBy(t, second), 0)
		}
		wantDown(t, w, false)
	}
}

// What a caller writes over in bytes that it handed in or was answered, in rounds or a share that it was told, is seen by no other.
func TestWhatIsWrittenOver(t *testing.T) {
	for _, o := range few() {
		p := pairOf(t, o, disk.New())
		for round := range 6 {
			m := o.share(round, o.values(round)...)
			whole := append(written(t, m), sample.Bytes(round, 40)...)
			heard := whole[:len(whole)-40]
			out, e := p.w.On(heard)
			p.by.on(t, written(t, m))
			want := o.answerBy(t, m)
			if !bytes.Equal(out, want) || e != 0 {
				t.Fatalf("On of %v = %s, %d", m, brief(out), e)
			}
			again, _ := p.w.On(heard)
			sample.Scribble(whole)
			p.stands(t, "writing over what was heard")
			if !bytes.Equal(out, want) {
				t.Errorf("writing over what was heard makes %s of %s", brief(out), brief(want))
			}
			sample.Scribble(out)
			if !bytes.Equal(again, want) {
				t.Errorf("writing over an answer makes %s of another one", brief(again))
			}
			wantOn(t, p.w, written(t, m), want, 0)
			rounds, share := p.w.Rounds(), o.values(round)
			told, _ := p.w.Share(round)
			twin, _ := p.w.Share(round)
			sample.Scribble(rounds)
			sample.Scribble(told)
			p.stands(t, "writing over what was told")
			if !slices.Equal(twin, share) {
				t.Errorf("writing over a share makes %s of another one", sample.Brief(twin))
			}
			wantOn(t, p.w, written(t, m), want, 0)
			wantOn(t, p.w, written(t, o.share(round, o.values(round+1)...)), nil, 6)
		}
		p.anew(t)
	}
}

// What stands behind the end of the bytes is none of them.
func TestRoomIsNoneOfIt(t *testing.T) {
	for _, o := range few() {
		m := o.share(3, o.values(1)...)
		whole := append(written(t, m), written(t, o.share(4, o.values(2)...))...)
		n := len(whole) / 2
		p := pairOf(t, o, disk.New())
		p.on(t, whole[:n-1]).on(t, whole[:0]).on(t, whole[:n]).on(t, whole[n:]).on(t, whole)
		wantRounds(t, p.w, 3, 4)
	}
}

// Putting more behind what was told leaves the worker as it was.
func TestMoreBehindWhatIsTold(t *testing.T) {
	for _, o := range few() {
		p := pairOf(t, o, disk.New()).hears(t, 3, o.values(1)...).hears(t, 9, o.values(2)...)
		_ = append(p.w.Rounds(), 7, 8, 9)
		share, _ := p.w.Share(3)
		_ = append(share, 1, 2, 3)
		out, _ := p.w.On(written(t, o.share(9, o.values(2)...)))
		_ = append(out, sample.Bytes(1, 40)...)
		p.stands(t, "putting more behind what was told")
		p.hears(t, 3, o.values(1)...).hears(t, 9, o.values(2)...)
	}
}

// The disk is the very one that was handed over: a fuse that is set on it later cuts the worker's writes, and a copy knows nothing of them.
func TestTheVeryDisk(t *testing.T) {
	for _, o := range few() {
		d := disk.New()
		w := wantNew(t, o, d, 0)
		c := d.Copy()
		m, late := o.share(3, o.values(1)...), o.share(4, o.values(1)...)
		wantOn(t, w, written(t, m), o.answerBy(t, m), 0)
		if len(d.Blocks()) == 0 || len(c.Blocks()) != 0 || c.Count() != 0 {
			t.Errorf("%d blocks, and a copy has %d", len(d.Blocks()), len(c.Blocks()))
		}
		wantRounds(t, wantNew(t, o, c, 0))
		c.Fuse(0)
		wantOn(t, w, written(t, m), o.answerBy(t, m), 0)
		blocks := len(d.Blocks())
		d.Fuse(1)
		wantOn(t, w, written(t, late), nil, 220)
		wantBlocks(t, d, blocks+1, blocks+1)
		if !d.Cut() || c.Cut() {
			t.Errorf("Cut() = %t, and of a copy %t", d.Cut(), c.Cut())
		}
	}
}

// What others do with the disk is not seen by the worker, but by the next that is made of it.
func TestWhatOthersWrite(t *testing.T) {
	for _, o := range few() {
		p := pairOf(t, o, disk.New()).hears(t, 3, o.values(1)...).hears(t, 4, o.values(2)...)
		p.disks(t, func(d *disk.Disk) { d.Trim(len(d.Blocks()) / 2) })
		wantRounds(t, p.w, 3, 4)
		p.hears(t, 4, o.values(2)...).hears(t, 4, o.values(1)...)
		p.anew(t)
		wantRounds(t, p.w, 3)
		p.hears(t, 4, o.values(1)...)
		p.disks(t, func(d *disk.Disk) { d.Write(make([]byte, size)) })
		p.hears(t, 5, o.values(1)...)
		p.anew(t)
		wantRounds(t, p.w, 3, 4)
		wantShare(t, p.w, 4, o.values(1)...)
		p.disks(t, func(d *disk.Disk) { d.Trim(0) })
		p.hears(t, 3, o.values(2)...).hears(t, 3, o.values(1)...)
		p.anew(t)
		wantRounds(t, p.w)
	}
}

// Workers of several disks are used at once, and hang on their own disks alone.
func TestWorkersAtOnce(t *testing.T) {
	ended := make(chan bool)
	o := few()[2]
	prog := api.Prog{Inputs: o.prog.Inputs, Ops: slices.Clone(o.prog.Ops), Outs: slices.Clone(o.prog.Outs)}
	for from := range 4 {
		p := pairOf(t, post{o.p, prog, from}, disk.New())
		go func() {
			defer func() { ended <- true }()
			for _, a := range sample.Scattered(api.Large, 300+from)[from:] {
				p.steered(t, a)
			}
		}()
	}
	for range 4 {
		<-ended
	}
}
