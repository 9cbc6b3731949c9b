package worker

// P24.1 to P24.3: what each call answers, and the chapter's examples.

import (
	"bytes"
	"encoding/hex"
	"fmt"
	"math"
	"slices"
	"testing"

	"conclave/api"
	"conclave/codec"
	"conclave/degree"
	"conclave/disk"
	"conclave/eval"
	"conclave/journal"
	"conclave/sample"
	"conclave/wire"
)

// The limits, as the document writes them.
const (
	size       = 32
	mostBytes  = 1048576
	mostBlocks = 65536
	lastRound  = 65535
)

// example is the plan of the chapter's examples, square their program.
var (
	example = sample.Plan(5, 2, 1, 0, 0, 2)
	square  = api.Prog{Inputs: 1, Ops: []api.Op{{Kind: api.OMul}}, Outs: []int{1}}
)

func hexed(s string) []byte {
	b, e := hex.DecodeString(s)
	if e != nil {
		panic(e)
	}
	return b
}

// brief tells bytes that may be many.
func brief(b []byte) string { return fmt.Sprintf("%.40x of %d bytes", b, len(b)) }

// written are a message's bytes.
func written(t *testing.T, m api.Msg) []byte {
	t.Helper()
	b, e := codec.Write(m)
	if e != 0 {
		t.Fatalf("there are no bytes of %v: %d", m, e)
	}
	return b
}

// post is who hears what: the plan, the program and the number of a worker.
type post struct {
	p    api.Plan
	prog api.Prog
	id   int
}

func (o post) String() string {
	return fmt.Sprintf("the worker %d of %v with %d steps and %d outs", o.id, o.p, len(o.prog.Ops), len(o.prog.Outs))
}

// share is the share message of a round for it.
func (o post) share(round int, values ...uint64) api.Msg {
	return api.Msg{Kind: 1, Round: round, Worker: o.id, Field: o.p.Field, Values: values}
}

// values are a share, another one for each number from.
func (o post) values(from int) []uint64 {
	if from%2 == 0 {
		return sample.Run(o.p.Field, from, o.p.Width)
	}
	return sample.EdgeBlocks(o.p.Field, from, 1, o.p.Width)[0]
}

// isFor is the share message for it that bytes are, by the chapter's words.
func (o post) isFor(b []byte) (m api.Msg, ok bool) {
	m, e := codec.Read(b)
	return m, e == 0 && m.Kind == 1 && m.Worker == o.id && m.Field == o.p.Field && len(m.Values) == o.p.Width
}

// answerBy is its answer by the chapter's words: the program applied to the share.
func (o post) answerBy(t *testing.T, m api.Msg) []byte {
	t.Helper()
	values, e := eval.Run(o.p.Field, o.prog, m.Values)
	if e != 0 {
		t.Fatalf("nothing comes out of %v by %s: %d", m, o, e)
	}
	return written(t, api.Msg{Kind: 2, Round: m.Round, Worker: m.Worker, Field: m.Field, Values: values})
}

// plain is a worker by the chapter's words: a plain list of the share messages that it holds, and a disk of its own, on which nothing is done but what the words say.
type plain struct {
	post
	d      *disk.Disk
	shares []api.Msg
	isDown bool
}

// made has it hold what stands on the disk; it stays as it was, if that is refused.
func (w *plain) made() api.Errno {
	records, e := journal.Open(w.d)
	if e != 0 {
		return e
	}
	w.shares, w.isDown = nil, false
	for _, record := range records {
		m, ok := w.isFor(record)
		if _, isHeld := w.held(m.Round); ok && !isHeld {
			w.shares = append(w.shares, m)
		}
	}
	return 0
}

func (w *plain) held(round int) (values []uint64, ok bool) {
	for _, m := range w.shares {
		if m.Round == round {
			return m.Values, true
		}
	}
	return nil, false
}

func (w *plain) on(t *testing.T, b []byte) (out []byte, e api.Errno) {
	t.Helper()
	if w.isDown {
		return nil, 240
	}
	m, ok := w.isFor(b)
	if !ok {
		return nil, 8
	}
	if values, isHeld := w.held(m.Round); isHeld {
		if !slices.Equal(values, m.Values) {
			return nil, 6
		}
		return w.answerBy(t, m), 0
	}
	if e := journal.Append(w.d, b); e != 0 {
		w.isDown = true
		return nil, e
	}
	w.shares = append(w.shares, m)
	return w.answerBy(t, m), 0
}

func (w *plain) rounds() []int {
	var l []int
	for _, m := range w.shares {
		l = append(l, m.Round)
	}
	slices.Sort(l)
	return l
}

// pair is a worker with its disk, and what the words make of it.
type pair struct {
	w  *Worker
	d  *disk.Disk
	by plain
}

// pairOf is a new one, with a disk of its own that stands as the one that is handed in.
func pairOf(t *testing.T, o post, d *disk.Disk) *pair {
	t.Helper()
	p := &pair{d: d.Copy(), by: plain{post: o, d: d.Copy()}}
	p.anew(t)
	if p.w == nil {
		t.Fatalf("there is no %s", o)
	}
	return p
}

// anew has a worker be made of the disk as it stands; where there is none the one ahead goes on.
func (p *pair) anew(t *testing.T) {
	t.Helper()
	w, e := New(p.by.p, p.by.prog, p.by.id, p.d)
	if want := p.by.made(); e != want || (w == nil) != (want != 0) {
		t.Fatalf("New of %s = %v, %d, not %d", p.by.post, w, e, want)
	}
	if w != nil {
		p.w = w
	}
	p.stands(t, "New")
}

// on has the worker hear bytes.
func (p *pair) on(t *testing.T, b []byte) *pair {
	t.Helper()
	before := slices.Clone(b)
	out, e := p.w.On(b)
	if want, wantE := p.by.on(t, b); !bytes.Equal(out, want) || e != wantE {
		t.Errorf("%s: On(%s) = %s, %d, not %s, %d", p.by.post, brief(b), brief(out), e, brief(want), wantE)
	}
	if !bytes.Equal(b, before) {
		t.Errorf("On makes %s of %s", brief(b), brief(before))
	}
	p.stands(t, "On("+brief(b)+")")
	return p
}

// hears has it hear a share message for it.
func (p *pair) hears(t *testing.T, round int, values ...uint64) *pair {
	t.Helper()
	return p.on(t, written(t, p.by.share(round, values...)))
}

// disks does something with both disks.
func (p *pair) disks(t *testing.T, do func(d *disk.Disk)) *pair {
	t.Helper()
	do(p.d)
	do(p.by.d)
	p.stands(t, "what others do with the disk")
	return p
}

func fuseOf(writes int) func(d *disk.Disk) { return func(d *disk.Disk) { d.Fuse(writes) } }

func mended(d *disk.Disk) { d.Mend() }

// others are rounds that may be asked for, beside those that are held.
func others() []int {
	return append(sample.Below(lastRound+1), sample.NotBelow(lastRound+1)...)
}

func (p *pair) stands(t *testing.T, behind string) {
	t.Helper()
	if p.w == nil {
		return
	}
	want := p.by.rounds()
	if l := p.w.Rounds(); !slices.Equal(l, want) {
		t.Errorf("behind %s: Rounds() = %v, not %v", behind, l, want)
	}
	for _, round := range append(want, 2, 3, 4, lastRound, lastRound+1, -1) {
		p.holds(t, behind, round)
	}
	if p.w.Down() != p.by.isDown {
		t.Errorf("behind %s: Down() = %t", behind, p.w.Down())
	}
	p.disksStand(t, behind)
}

// holds has Share tell of a round what the words do.
func (p *pair) holds(t *testing.T, behind string, round int) {
	t.Helper()
	values, ok := p.by.held(round)
	if l, is := p.w.Share(round); !slices.Equal(l, values) || is != ok {
		t.Errorf("behind %s: Share(%d) = %s, %t, not %s, %t", behind, round, sample.Brief(l), is, sample.Brief(values), ok)
	}
}

func (p *pair) disksStand(t *testing.T, behind string) {
	t.Helper()
	if l, want := p.d.Blocks(), p.by.d.Blocks(); !slices.EqualFunc(l, want, bytes.Equal) {
		t.Errorf("behind %s: %d blocks, not the %d that there should be", behind, len(l), len(want))
	}
	if p.d.Count() != p.by.d.Count() || p.d.Cut() != p.by.d.Cut() {
		t.Errorf("behind %s: Count() = %d, Cut() = %t, not %d, %t", behind, p.d.Count(), p.d.Cut(), p.by.d.Count(), p.by.d.Cut())
	}
}

func wantBlocks(t *testing.T, d *disk.Disk, blocks, count int) {
	t.Helper()
	if l := d.Blocks(); len(l) != blocks || d.Count() != count {
		t.Errorf("%d blocks, Count() = %d, not %d, %d", len(l), d.Count(), blocks, count)
	}
}

func wantOn(t *testing.T, w *Worker, b, want []byte, e api.Errno) {
	t.Helper()
	if out, got := w.On(b); !bytes.Equal(out, want) || got != e {
		t.Errorf("On(%s) = %s, %d, not %s, %d", brief(b), brief(out), got, brief(want), e)
	}
}

func wantRounds(t *testing.T, w *Worker, want ...int) {
	t.Helper()
	if l := w.Rounds(); !slices.Equal(l, want) {
		t.Errorf("Rounds() = %v, not %v", l, want)
	}
}

func wantShare(t *testing.T, w *Worker, round int, want ...uint64) {
	t.Helper()
	if l, ok := w.Share(round); !slices.Equal(l, want) || ok != (len(want) > 0) {
		t.Errorf("Share(%d) = %s, %t, not %s", round, sample.Brief(l), ok, sample.Brief(want))
	}
}

func wantDown(t *testing.T, w *Worker, want bool) {
	t.Helper()
	if w.Down() != want {
		t.Errorf("Down() = %t", !want)
	}
}

func wantNew(t *testing.T, o post, d *disk.Disk, want api.Errno) *Worker {
	t.Helper()
	w, e := New(o.p, o.prog, o.id, d)
	if e != want || (w == nil) != (want != 0) {
		t.Errorf("New of %s = %v, %d, not %d", o, w, e, want)
	}
	return w
}

// constant has so many inputs, and a number comes out so many times.
func constant(inputs int, c uint64, outs int) api.Prog {
	return api.Prog{Inputs: inputs, Ops: []api.Op{{Kind: api.OConst, C: c}}, Outs: slices.Repeat([]int{inputs}, outs)}
}

// widened is a program with more inputs, all but the first of which nothing uses.
func widened(prog api.Prog, inputs int) api.Prog {
	more := inputs - prog.Inputs
	later := func(v int) int {
		if v >= prog.Inputs {
			return v + more
		}
		return v
	}
	wide := api.Prog{Inputs: inputs}
	for _, op := range prog.Ops {
		if op.Kind != api.OConst {
			op.A, op.B = later(op.A), later(op.B)
		}
		wide.Ops = append(wide.Ops, op)
	}
	for _, out := range prog.Outs {
		wide.Outs = append(wide.Outs, later(out))
	}
	return wide
}

// programs are such as fit a plan and have Outs: one, many, as many as there may be, with as many steps as there may be.
func programs(p api.Plan) []api.Prog {
	w := p.Width
	all := []api.Prog{
		constant(w, 7, 1),
		constant(w, math.MaxUint64, 64),
		{Inputs: w, Outs: sample.Inputs(w)},
		{Inputs: w, Outs: slices.Repeat([]int{w - 1}, 64)},
		widened(sample.Raise(max(1, p.Degree)), w),
		sample.Prog(9, w, 256, 64),
	}
	for from := range 4 {
		all = append(all, sample.Prog(40*from, w, 1+3*from, 1+from), sample.Steep(30*from, w, 2+from, 3))
	}
	return slices.DeleteFunc(all, func(prog api.Prog) bool { return degreeOf(prog) > p.Degree })
}

// degreeOf is past every plan's Degree, if the program has none.
func degreeOf(prog api.Prog) int {
	n, e := degree.Of(prog)
	if e != 0 {
		return math.MaxInt
	}
	return n
}

// isAccepted, of a plan that may be, by the words of chapter 12.
func isAccepted(p api.Plan) bool { return p.N >= p.Degree*(p.K+p.T-1)+p.S+2*p.E+1 }

// accepted are plans of both fields, with a Width of 1, 3 and 64.
func accepted() []api.Plan {
	return slices.DeleteFunc(sample.Plans(), func(p api.Plan) bool { return !isAccepted(p) })
}

// ends are the first, the last and one worker between.
func ends(p api.Plan) []int {
	return slices.Compact([]int{0, p.N / 2, p.N - 1})
}

// posts are workers that there may be: with the larger plans the programs and the numbers take turns.
func posts() []post {
	var l []post
	for at, p := range accepted() {
		ids := ends(p)
		for i, prog := range programs(p) {
			if p.Width == 64 && (i+at)%3 > 0 {
				continue
			}
			l = append(l, post{p, prog, ids[(i+at)%len(ids)]})
		}
	}
	return l
}

// few are four of them, of which two have a Width of 1, two are of each field.
func few() []post {
	large := sample.With(sample.Plan(11, 3, 1, 0, 2, 2), api.Large, 1)
	return []post{
		{example, square, 0},
		{large, programs(large)[4], 10},
		{sample.With(example, api.Small, 3), sample.Prog(40, 3, 1, 2), 4},
		{sample.With(large, api.Large, 64), api.Prog{Inputs: 64, Outs: sample.Inputs(64)}, 5},
	}
}

func TestExamples(t *testing.T) {
	o := post{example, square, 0}
	w := wantNew(t, o, disk.New(), 0)
	answer := written(t, api.Msg{Kind: api.MReply, Round: 3, Worker: 0, Field: api.Small, Values: []uint64{121}})
	wantOn(t, w, written(t, o.share(3, 11)), answer, 0)
	wantRounds(t, w, 3)
	wantShare(t, w, 3, 11)
	wantOn(t, w, written(t, o.share(3, 11)), answer, 0)
	wantOn(t, w, written(t, o.share(3, 12)), nil, 6)
	wantOn(t, w, written(t, post{example, square, 1}.share(3, 11)), nil, 8)
	wantOn(t, w, written(t, post{example, square, 1}.share(4, 11)), nil, 8)
	wantOn(t, w, nil, nil, 8)
	wantNew(t, post{example, square, 5}, disk.New(), 2)
	wantNew(t, o, nil, 1)
}

// Bytes and blocks by hand: what is heard, what is answered, what is written.
func TestBytesByHand(t *testing.T) {
	large := sample.With(sample.Plan(11, 3, 1, 0, 2, 2), api.Large, 1)
	for _, c := range []struct {
		o                            post
		heard, answer, block, second string
	}{
		{post{example, square, 0}, "0000001201000000030000000001000000010000000bcef9436cdcb1ef04", "000000120200000003000000000100000001000000790f547b51c9410339", "0000001e0000001201000000030000000001000000010000000bcef9436cdcb1", "ef04b7f0d266b7eb08d8"},
		{post{large, square, 10}, "00000016010000ffff0000000a02000000010000000100000000e37d432a23e55aa8", "00000016020000ffff0000000a020000000100000000ffffffffbf31eaad8f795864", "0000002200000016010000ffff0000000a02000000010000000100000000e37d", "432a23e55aa81978783e4b6f2e39"},
	} {
		d := disk.New()
		w := wantNew(t, c.o, d, 0)
		wantBlocks(t, d, 0, 0)
		for range 3 {
			wantOn(t, w, hexed(c.heard), hexed(c.answer), 0)
			wantBlocks(t, d, 2, 2)
		}
		l := d.Blocks()
		if !bytes.Equal(l[0], hexed(c.block)) || !bytes.Equal(l[1], append(hexed(c.second), make([]byte, size-len(c.second)/2)...)) {
			t.Errorf("the blocks are %x", l)
		}
		again := wantNew(t, c.o, d, 0)
		wantOn(t, again, hexed(c.heard), hexed(c.answer), 0)
		wantBlocks(t, d, 2, 2)
	}
}

// P24.1

func TestNewOfEmptyDisks(t *testing.T) {
	for _, p := range accepted() {
		all := programs(p)
		for id := range p.N {
			d := disk.New()
			w := wantNew(t, post{p, all[id%len(all)], id}, d, 0)
			wantRounds(t, w)
			wantDown(t, w, false)
			wantBlocks(t, d, 0, 0)
			wantOn(t, w, nil, nil, 8)
		}
	}
}

// variants are messages beside a share message for a worker, of the same round, each of another kind, worker, field or number of Values, or of more than one of them.
func variants(m api.Msg) []api.Msg {
	return slices.DeleteFunc(sample.Variants(m), func(v api.Msg) bool { return v.Round != m.Round })
}

// sealed is a message's inside with other bytes from one place on, sealed anew.
func sealed(t *testing.T, inside []byte, at int, more ...byte) []byte {
	t.Helper()
	inside = slices.Clone(inside)
	copy(inside[at:], more)
	b, e := wire.Seal(inside)
	if e != 0 {
		t.Fatalf("Seal: %d", e)
	}
	return b
}

// garbled are bytes that are no message, made of a share message's.
func garbled(t *testing.T, m api.Msg) [][]byte {
	t.Helper()
	b := written(t, m)
	inside, _, _ := wire.Unseal(b)
	// The first Value begins at the place 14: behind the kind, two counts, the field and the count of the Values.
	last := len(inside)
	width := (last - 14) / len(m.Values)
	twice, _ := wire.Seal(b)
	l := append(sample.Garbled(b), inside, twice, slices.Concat(b, inside))
	longer, _ := wire.Seal(append(slices.Clone(inside), 0))
	return append(l, longer,
		sealed(t, inside[:last-1], 0), sealed(t, inside, 0, 0), sealed(t, inside, 0, 3), sealed(t, inside, 1, 0, 1, 0, 0), sealed(t, inside, 1, 255, 255, 255, 255),
		sealed(t, inside, 5, 0, 0, 0, 64), sealed(t, inside, 9, 0), sealed(t, inside, 9, 3), sealed(t, inside, last-width, bytes.Repeat([]byte{255}, width)...))
}

// notFor are bytes that are no share message for a worker, made of one that is.
func (o post) notFor(t *testing.T, m api.Msg) [][]byte {
	t.Helper()
	l := garbled(t, m)
	for _, v := range variants(m) {
		l = append(l, written(t, v))
	}
	return l
}

// recorded is a disk with these records.
func recorded(t *testing.T, records ...[]byte) *disk.Disk {
	t.Helper()
	d := disk.New()
	for _, r := range records {
		if e := journal.Append(d, r); e != 0 {
			t.Fatalf("Append of %s: %d", brief(r), e)
		}
	}
	return d
}

// Records that are no share messages for it count for nothing, wherever they stand; nothing is written.
func TestNewOfOtherRecords(t *testing.T) {
	for _, o := range few() {
		first, second := o.share(7, o.values(1)...), o.share(2, o.values(2)...)
		all := o.notFor(t, o.share(7, o.values(3)...))
		for i, none := range all {
			w := pairOf(t, o, recorded(t, none))
			wantRounds(t, w.w)
			w.hears(t, 7, o.values(i)...)
			w = pairOf(t, o, recorded(t, none, written(t, first), none, written(t, second), none))
			wantRounds(t, w.w, 2, 7)
			wantShare(t, w.w, 7, first.Values...)
			wantShare(t, w.w, 2, second.Values...)
		}
		all = slices.Insert(all, len(all)/2, written(t, second), written(t, first))
		d := recorded(t, all...)
		count := d.Count()
		w := wantNew(t, o, d, 0)
		wantRounds(t, w, 2, 7)
		wantShare(t, w, 7, first.Values...)
		wantBlocks(t, d, count, count)
	}
}

// Of one round the first record counts, whether the Values of others are the same or not.
func TestNewOfTwoSharesOfARound(t *testing.T) {
	for _, o := range few() {
		for _, later := range []api.Msg{o.share(4, o.values(1)...), o.share(4, o.values(2)...)} {
			first, between := o.share(4, o.values(1)...), o.share(5, o.values(9)...)
			d := recorded(t, written(t, first), written(t, between), written(t, later), written(t, later))
			w := pairOf(t, o, d)
			wantRounds(t, w.w, 4, 5)
			wantShare(t, w.w, 4, first.Values...)
			wantShare(t, w.w, 5, between.Values...)
			w.on(t, written(t, later)).on(t, written(t, first))
			wantOn(t, w.w, written(t, first), o.answerBy(t, first), 0)
			wantOn(t, w.w, written(t, o.share(4, o.values(6)...)), nil, 6)
			// All of them stay on the disk.
			wantBlocks(t, w.d, d.Count(), d.Count())
			w.anew(t)
			wantShare(t, w.w, 4, first.Values...)
		}
	}
}

// What is behind the records is trimmed, by one raw write.
func TestNewWithSomethingBehind(t *testing.T) {
	for _, o := range few() {
		share := written(t, o.share(4, o.values(1)...))
		part := recorded(t, written(t, o.share(5, o.values(1)...))).Blocks()
		for _, records := range [][][]byte{nil, {share}, {{1}, share, nil}} {
			for _, behind := range [][][]byte{part[:1], part[:len(part)-1], part[1:], {make([]byte, size)}, append(part[:1:1], part...)} {
				d := recorded(t, records...)
				whole := d.Count()
				for _, b := range behind {
					d.Write(b)
				}
				p := pairOf(t, o, d)
				wantBlocks(t, p.d, whole, whole+len(behind)+1)
				p.hears(t, 5, o.values(1)...).hears(t, 5, o.values(2)...)
				p.anew(t)
				p.hears(t, 5, o.values(1)...).hears(t, 4, o.values(1)...)
			}
		}
	}
}

// A disk whose power is cut makes a worker just if nothing is behind its records.
func TestNewOfADiskThatIsCut(t *testing.T) {
	for _, o := range few() {
		share := written(t, o.share(4, o.values(1)...))
		d := recorded(t, share)
		d.Fuse(0)
		d.Trim(0)
		p := pairOf(t, o, d)
		wantRounds(t, p.w, 4)
		wantDown(t, p.w, false)
		p.on(t, share).hears(t, 4, o.values(2)...).hears(t, 5, o.values(1)...)
		wantDown(t, p.w, true)

		for _, fuse := range []func(d *disk.Disk){fuseOf(0), func(d *disk.Disk) { d.Fuse(0); d.Trim(0) }, func(d *disk.Disk) { d.Fuse(0); d.Trim(0); d.Fuse(9) }} {
			d = recorded(t, share)
			d.Write(make([]byte, size))
			fuse(d)
			blocks := len(d.Blocks())
			for range 3 {
				wantNew(t, o, d, 220)
				wantBlocks(t, d, blocks, blocks)
			}
			d.Mend()
			w := wantNew(t, o, d, 0)
			wantBlocks(t, d, blocks-1, blocks+1)
			wantRounds(t, w, 4)
			wantOn(t, w, share, o.answerBy(t, o.share(4, o.values(1)...)), 0)
		}
	}
}

// P24.2

// A new round's share is written as a record, and answered; so it is again, without a write; another one of it is not.
func TestOn(t *testing.T) {
	for i, o := range posts() {
		p := pairOf(t, o, disk.New())
		wrote := 0
		for n, round := range []int{0, lastRound, 3 + i, 1} {
			m := o.share(round, o.values(n+i)...)
			b, answer := written(t, m), o.answerBy(t, m)
			wrote += journal.Size(b)
			wantOn(t, p.w, b, answer, 0)
			p.by.on(t, b)
			wantBlocks(t, p.d, wrote, wrote)
			p.on(t, b)
			wantOn(t, p.w, b, answer, 0)
			wantOn(t, p.w, written(t, o.share(round, o.values(n+i+1)...)), nil, 6)
			p.hears(t, round, o.values(n+i+3)...)
			wantBlocks(t, p.d, wrote, wrote)
		}
		wantDown(t, p.w, false)
		p.anew(t)
		p.hears(t, 0, o.values(i)...).hears(t, 1, o.values(i+3)...)
		wantBlocks(t, p.d, wrote, wrote)
	}
}

// Shares that differ in one element alone are other ones, at each place.
func TestOtherSharesOfARound(t *testing.T) {
	for _, o := range few() {
		values := o.values(4)
		p := pairOf(t, o, disk.New()).hears(t, 9, values...)
		for place := range values {
			for _, a := range []uint64{0, 1, values[place] ^ 1, sample.Prime(o.p.Field) - 1} {
				if a == values[place] || a >= sample.Prime(o.p.Field) {
					continue
				}
				put := slices.Clone(values)
				put[place] = a
				wantOn(t, p.w, written(t, o.share(9, put...)), nil, 6)
			}
		}
		slices.Reverse(values)
		p.hears(t, 9, values...)
		wantDown(t, p.w, false)
		wantBlocks(t, p.d, p.by.d.Count(), p.by.d.Count())
	}
}

// Bytes that are no share message for it are refused, whether or not it holds their round, and leave it as it was.
func TestOnOfOtherBytes(t *testing.T) {
	for _, o := range few() {
		for round := range 2 {
			m := o.share(round, o.values(round)...)
			p := pairOf(t, o, disk.New()).hears(t, 1, o.values(1)...)
			written := p.d.Count()
			for _, none := range o.notFor(t, m) {
				wantOn(t, p.w, none, nil, 8)
			}
			wantBlocks(t, p.d, written, written)
			p.stands(t, "bytes that are none")
			wantRounds(t, p.w, 1)
			wantDown(t, p.w, false)
		}
	}
}

// Which of the messages that may be are for it, over all of the sample's.
func TestOnOfAllMessages(t *testing.T) {
	heard := map[api.Errno]int{}
	for _, o := range []post{few()[0], {sample.With(example, api.Large, 2), programs(sample.With(example, api.Large, 2))[0], 1}, few()[3]} {
		p := pairOf(t, o, disk.New())
		for _, m := range sample.Msgs() {
			b := written(t, m)
			out, e := p.w.On(b)
			want, wantE := p.by.on(t, b)
			heard[e]++
			if !bytes.Equal(out, want) || e != wantE {
				t.Errorf("On of %v = %s, %d, not %s, %d", m, brief(out), e, brief(want), wantE)
			}
		}
		p.stands(t, "all messages")
	}
	if heard[0] < 10 || heard[6] < 10 || heard[8] < 1000 {
		t.Errorf("the messages are answered %v", heard)
	}
}

// P24.3

func TestRoundsAndShares(t *testing.T) {
	for _, o := range few() {
		p := pairOf(t, o, disk.New())
		for i, at := range sample.Mixed(3, 60) {
			p.hears(t, at*at*18, o.values(i)...)
		}
		if l := p.w.Rounds(); len(l) != 60 || !slices.IsSorted(l) || l[0] != 0 || l[59] != 59*59*18 {
			t.Errorf("Rounds() = %v", l)
		}
		for i, at := range sample.Mixed(3, 60) {
			wantShare(t, p.w, at*at*18, o.values(i)...)
		}
		for _, round := range others() {
			p.holds(t, "many shares", round)
		}
		p.anew(t)
		for _, round := range others() {
			p.holds(t, "New", round)
		}
	}
}

// Shares of 0 alone are held as others are.
func TestSharesOfNoughts(t *testing.T) {
	for _, o := range few() {
		p := pairOf(t, o, disk.New())
		p.hears(t, 0, make([]uint64, o.p.Width)...)
		wantShare(t, p.w, 0, make([]uint64, o.p.Width)...)
		p.hears(t, 0, o.values(2)...).hears(t, 0, make([]uint64, o.p.Width)...)
		p.anew(t)
		wantShare(t, p.w, 0, make([]uint64, o.p.Width)...)
	}
}

// Each round there may be, once; then the same again of a worker made anew.
func TestAllRounds(t *testing.T) {
	o := few()[0]
	d := disk.New()
	w := wantNew(t, o, d, 0)
	for i := range mostBlocks / 2 {
		round := (i * 40503) % (lastRound + 1)
		m := o.share(round, uint64(i))
		if out, e := w.On(written(t, m)); e != 0 || !bytes.Equal(out, o.answerBy(t, m)) {
			t.Fatalf("On of the round %d = %s, %d", round, brief(out), e)
		}
	}
	want := w.Rounds()
	if len(want) != mostBlocks/2 || !slices.IsSorted(want) {
		t.Errorf("%d rounds", len(want))
	}
	again := wantNew(t, o, d, 0)
	wantRounds(t, again, want...)
	for _, round := range want {
		l, ok := w.Share(round)
		if other, is := again.Share(round); !slices.Equal(l, other) || !ok || !is {
			t.Errorf("Share(%d) = %v, %t, and %v, %t", round, l, ok, other, is)
		}
	}
}
