package worker

// P24.4, and every call in many orders, one behind the other.

import (
	"bytes"
	"maps"
	"slices"
	"testing"

	"conclave/api"
	"conclave/disk"
	"conclave/journal"
	"conclave/sample"
)

// answered is a share with the bytes that answer it.
type answered struct {
	values []uint64
	out    []byte
}

// life is a worker with its disk, and each one that is made of this disk behind a crash; given are the answers that any of them gave, by rounds.
type life struct {
	o     post
	d     *disk.Disk
	w     *Worker
	fuses []int
	given map[int]answered
}

// born has as many raw writes succeed ahead of each cut as the fuses tell, one behind the other; behind the last of them all do.
func born(t *testing.T, o post, fuses ...int) *life {
	t.Helper()
	v := &life{o: o, d: disk.New(), fuses: fuses, given: map[int]answered{}}
	v.mend()
	v.starts(t)
	return v
}

func (v *life) mend() {
	v.d.Mend()
	if len(v.fuses) > 0 {
		v.d.Fuse(v.fuses[0])
		v.fuses = v.fuses[1:]
	}
}

// starts has a worker be made of the disk as it is, or else of the disk mended, however often the power is cut in that. It holds just the rounds that were answered.
func (v *life) starts(t *testing.T) {
	t.Helper()
	w, e := New(v.o.p, v.o.prog, v.o.id, v.d)
	for ; e != 0; w, e = New(v.o.p, v.o.prog, v.o.id, v.d) {
		if e != 220 || w != nil || !v.d.Cut() {
			t.Fatalf("New = %v, %d", w, e)
		}
		v.mend()
	}
	v.w = w
	v.holds(t, "New")
}

func (v *life) holds(t *testing.T, behind string) {
	t.Helper()
	if l, want := v.w.Rounds(), slices.Sorted(maps.Keys(v.given)); !slices.Equal(l, want) {
		t.Errorf("%s: behind %s Rounds() = %v, and answers were given of %v", v.o, behind, l, want)
	}
	for round, g := range v.given {
		wantShare(t, v.w, round, g.values...)
	}
}

// hears has the worker hear a share, and tells whether it is still up.
func (v *life) hears(t *testing.T, m api.Msg) bool {
	t.Helper()
	earlier, was := v.given[m.Round]
	same := was && slices.Equal(earlier.values, m.Values)
	out, e := v.w.On(written(t, m))
	switch {
	case e == 0 && (same || !was):
		want := v.o.answerBy(t, m)
		if !bytes.Equal(out, want) || was && !bytes.Equal(out, earlier.out) {
			t.Errorf("%s: On of %v = %s, not %s", v.o, m, brief(out), brief(want))
		}
		v.given[m.Round] = answered{m.Values, out}
	case e == 6 && was && !same, e == 220 && !was:
	default:
		t.Errorf("%s: On of %v = %s, %d; the round was answered: %t, this share: %t", v.o, m, brief(out), e, was, same)
	}
	if v.w.Down() != (e == 220) || e != 0 && len(out) > 0 {
		t.Errorf("%s: On of %v = %s, %d, and Down() = %t", v.o, m, brief(out), e, v.w.Down())
	}
	v.holds(t, "On")
	return e != 220
}

// ends has a worker of the mended disk give again what was given.
func (v *life) ends(t *testing.T) {
	t.Helper()
	v.fuses = nil
	v.mend()
	v.starts(t)
	count := v.d.Count()
	for round, g := range maps.Clone(v.given) {
		v.hears(t, v.o.share(round, g.values...))
		wantOn(t, v.w, written(t, v.o.share(round, g.values...)), g.out, 0)
		wantOn(t, v.w, written(t, v.o.share(round, v.o.values(90)...)), nil, 6)
	}
	wantBlocks(t, v.d, len(v.d.Blocks()), count)
}

// scripts are shares that are heard one behind the other: the same ones, others of the same rounds, all in turn, any.
func (o post) scripts() [][]api.Msg {
	a, b, c := o.values(1), o.values(2), o.values(5)
	l := [][]api.Msg{
		{o.share(0, a...), o.share(0, a...), o.share(0, b...)},
		{o.share(3, a...), o.share(3, b...), o.share(3, a...), o.share(3, b...)},
		{o.share(2, a...), o.share(1, a...), o.share(0, a...), o.share(2, b...), o.share(1, b...), o.share(0, b...), o.share(2, a...), o.share(1, a...)},
		{o.share(lastRound, c...), o.share(0, a...), o.share(lastRound, b...), o.share(0, a...), o.share(5, c...)},
	}
	for from := range 3 {
		var any []api.Msg
		for _, a := range sample.Scattered(api.Large, 9+from)[from:] {
			any = append(any, o.share(int(a%4), o.values(int(a>>8%3))...))
		}
		l = append(l, any)
	}
	return l
}

// lives has a script be heard, with a worker made anew as soon as one is down; if it is heard again, the share whose record was cut comes once more.
func lives(t *testing.T, o post, script []api.Msg, isHeardAgain, isMended bool, fuses ...int) {
	t.Helper()
	v := born(t, o, fuses...)
	for _, m := range script {
		for !v.hears(t, m) {
			if isMended {
				v.mend()
			}
			v.starts(t)
			if !isHeardAgain {
				break
			}
			// A disk that is cut still, with nothing behind its records, makes a worker that goes down with the next record.
			if v.d.Cut() {
				v.mend()
			}
		}
	}
	v.ends(t)
}

// Behind each number of raw writes, and once more behind each few.
func TestOneAnswer(t *testing.T) {
	for _, o := range few()[:3] {
		for _, script := range o.scripts() {
			for fuse := range 3*len(script) + 3 {
				for _, behind := range [][]int{nil, {0}, {1}, {0, 0, 1}, {2, 1}, {3, 0, 5}, {4, 4, 4}} {
					for way := range 4 {
						lives(t, o, script, way%2 == 0, way < 2, append([]int{fuse}, behind...)...)
					}
				}
			}
		}
	}
}

func TestOneAnswerOfWideShares(t *testing.T) {
	o := few()[3]
	for _, script := range o.scripts() {
		for fuse := range 60 {
			for way := range 4 {
				lives(t, o, script, way%2 == 0, way < 2, fuse, fuse%19, 17)
			}
		}
	}
}

// Workers made anew at any time, not down, with other lists of raw writes each time.
func TestOneAnswerOfManyLives(t *testing.T) {
	for _, o := range few() {
		for from := range 12 {
			draws := sample.Scattered(api.Large, 260+from)[from:]
			var fuses []int
			for _, a := range draws[:60] {
				fuses = append(fuses, int(a>>20%(2+uint64(5*o.p.Width))))
			}
			v := born(t, o, fuses...)
			for _, a := range draws[60:] {
				up := v.hears(t, o.share(int(a%24), o.values(int(a>>8%3))...))
				switch a >> 16 % 8 {
				case 0:
					v.starts(t)
				case 1, 2:
					v.mend()
					v.starts(t)
				default:
					if !up {
						v.starts(t)
					}
				}
			}
			v.ends(t)
			if len(v.given) < 12 {
				t.Errorf("%s: %d rounds were answered", o, len(v.given))
			}
		}
	}
}

// All workers of all programs: each answer is the program applied to the share, also behind a crash.
func TestAnswersAreThePrograms(t *testing.T) {
	for i, o := range posts() {
		lives(t, o, o.scripts()[i%7], true, i%2 == 0, i%11, i%3)
	}
}

// Two workers of one disk at a time: what the first that was made wrote is held by the next that is made.
func TestTwoWorkersOfOneDisk(t *testing.T) {
	for _, o := range few() {
		d := disk.New()
		first := wantNew(t, o, d, 0)
		a, b := o.share(3, o.values(1)...), o.share(3, o.values(2)...)
		second := wantNew(t, o, d, 0)
		wantOn(t, first, written(t, a), o.answerBy(t, a), 0)
		wantRounds(t, second)
		third := wantNew(t, o, d, 0)
		wantOn(t, third, written(t, b), nil, 6)
		wantOn(t, third, written(t, a), o.answerBy(t, a), 0)
		wantRounds(t, first, 3)
		// What stands on the disk since it was made is not looked at.
		wantOn(t, second, written(t, b), o.answerBy(t, b), 0)
		wantShare(t, wantNew(t, o, d, 0), 3, a.Values...)
	}
}

// call is one that a pair goes through.
type call func(t *testing.T, p *pair)

// calls are those that are tried in all orders.
func calls() []call {
	hears := func(round, from int) call {
		return func(t *testing.T, p *pair) { p.hears(t, round, p.by.values(from)...) }
	}
	disks := func(do func(d *disk.Disk)) call {
		return func(t *testing.T, p *pair) { p.disks(t, do) }
	}
	return []call{
		hears(3, 1), hears(3, 2), hears(1, 2),
		func(t *testing.T, p *pair) { p.on(t, written(t, api.Msg{Kind: 2, Round: 3, Field: 1})) },
		func(t *testing.T, p *pair) { p.anew(t) },
		disks(fuseOf(0)), disks(fuseOf(1)), disks(mended),
		disks(func(d *disk.Disk) { d.Write(make([]byte, size)) }),
		disks(func(d *disk.Disk) { d.Trim(max(0, len(d.Blocks())-1)) }),
	}
}

// everyOrder has new pairs go through all orders of so many calls.
func everyOrder(t *testing.T, o post, d *disk.Disk, calls []call, many int) {
	t.Helper()
	orders := 1
	for range many {
		orders *= len(calls)
	}
	for order := range orders {
		p := pairOf(t, o, d)
		for range many {
			calls[order%len(calls)](t, p)
			order /= len(calls)
		}
	}
}

func TestEveryOrder(t *testing.T) {
	o := few()[0]
	everyOrder(t, o, disk.New(), calls(), 4)
	everyOrder(t, o, recorded(t, written(t, o.share(3, o.values(2)...)), nil), calls(), 3)
	everyOrder(t, few()[2], recorded(t, written(t, few()[2].share(1, few()[2].values(1)...))), calls(), 3)
}

// The calls that tell of what it holds most, in longer orders.
func TestEveryOrderOfFewCalls(t *testing.T) {
	all := calls()
	some := []call{all[0], all[1], all[4], all[6], all[7]}
	everyOrder(t, few()[1], disk.New(), some, 6)
}

// steered has a call without any order, the same one each time.
func (p *pair) steered(t *testing.T, a uint64) {
	t.Helper()
	o := p.by.post
	rest := int(a >> 8 % 1000)
	m := o.share(rest%37*rest%(lastRound+1), o.values(rest%3)...)
	switch a % 32 {
	case 0, 1, 2:
		p.disks(t, fuseOf(rest%7*(1+o.p.Width/4)))
	case 3, 4, 5, 6:
		p.disks(t, mended)
	case 7, 8, 9, 10, 11:
		p.anew(t)
	case 12:
		p.disks(t, func(d *disk.Disk) { d.Write(make([]byte, size)) })
	case 13:
		p.disks(t, func(d *disk.Disk) { d.Trim(max(0, len(d.Blocks())-rest%4)) })
	case 14:
		p.disks(t, func(d *disk.Disk) { journal.Append(d, sample.Bytes(rest, rest%50)) })
	case 15:
		p.disks(t, func(d *disk.Disk) { journal.Append(d, written(t, m)) })
	case 16, 17:
		b := written(t, m)
		b[rest%len(b)]++
		p.on(t, b)
	case 18:
		m.Kind = 2
		p.on(t, written(t, m))
	case 19:
		m.Worker = (m.Worker + 1) % 64
		p.on(t, written(t, m))
	default:
		p.on(t, written(t, m))
	}
}

func TestLongOrders(t *testing.T) {
	for i, o := range slices.Concat(few(), few()[:2]) {
		p := pairOf(t, o, disk.New())
		most, down := 0, 0
		for _, a := range sample.Scattered(api.Large, 1200+i)[i:] {
			p.steered(t, a)
			most = max(most, len(p.by.shares))
			if p.by.isDown {
				down++
			}
		}
		if most < 8 || down < 100 || down > 1000 {
			t.Errorf("%s: at most %d rounds are held, and it is down behind %d calls", o, most, down)
		}
	}
}

// At the limit, too.
func TestLongOrdersOfFullDisks(t *testing.T) {
	o := few()[0]
	p := pairOf(t, o, withRoomFor(t, 5, written(t, o.share(3, 11)), written(t, o.share(4, 7))))
	down := 0
	for i, a := range sample.Scattered(api.Large, 70) {
		if a%32 == 13 {
			continue
		}
		p.steered(t, a)
		if i%10 == 9 {
			p.disks(t, mended)
			p.anew(t)
		}
		if p.by.isDown {
			down++
		}
	}
	if down < 5 || len(p.by.shares) < 3 {
		t.Errorf("it is down behind %d calls, and holds %d rounds", down, len(p.by.shares))
	}
}
