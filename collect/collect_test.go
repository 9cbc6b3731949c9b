package collect

// P25.1 and P25.2: what each call answers, and the chapter's examples.

import (
	"bytes"
	"encoding/hex"
	"fmt"
	"math"
	"slices"
	"testing"

	"conclave/api"
	"conclave/codec"
	"conclave/plan"
	"conclave/regain"
	"conclave/reply"
	"conclave/sample"
	"conclave/wire"
)

// The limits, as the document writes them, and where a reply's Values begin: behind its piece's count, its kind, two counts, its field and the count of the Values.
const (
	mostOuts  = 64
	lastRound = 65535
	atValues  = 4 + 1 + 4 + 4 + 1 + 4
)

// example is the plan of the chapter's examples.
var example = sample.Plan(5, 2, 1, 0, 1, 1)

func r(worker int, values ...uint64) api.Reply { return api.Reply{Worker: worker, Values: values} }

func replies(l ...api.Reply) []api.Reply { return l }

func packet(from, to int, b []byte) api.Packet { return api.Packet{From: from, To: to, Bytes: b} }

func same(a, b api.Reply) bool { return a.Worker == b.Worker && slices.Equal(a.Values, b.Values) }

func sameLists(a, b [][]uint64) bool { return slices.EqualFunc(a, b, slices.Equal[[]uint64]) }

func sameResult(a, b api.Result) bool {
	return sameLists(a.Results, b.Results) && sameLists(a.Polys, b.Polys) && slices.Equal(a.Wrong, b.Wrong)
}

// brief tells what may be long.
func brief(a any) string { return fmt.Sprintf("%.300s", fmt.Sprint(a)) }

// written are a message's bytes.
func written(t *testing.T, m api.Msg) []byte {
	t.Helper()
	b, e := codec.Write(m)
	if e != 0 {
		t.Fatalf("there are no bytes of %s: %d", brief(m), e)
	}
	return b
}

func hexed(s string) []byte {
	b, e := hex.DecodeString(s)
	if e != nil {
		panic(e)
	}
	return b
}

// ask is what replies are asked for: the plan, how many outs, the round.
type ask struct {
	p           api.Plan
	outs, round int
}

func (a ask) String() string { return fmt.Sprintf("%v, %d, %d", a.p, a.outs, a.round) }

// msg is a worker's reply to it, as a message.
func (a ask) msg(worker int, values ...uint64) api.Msg {
	return api.Msg{Kind: 2, Round: a.round, Worker: worker, Field: a.p.Field, Values: values}
}

// reply is a worker's reply to it, as bytes.
func (a ask) reply(t *testing.T, worker int, values ...uint64) []byte {
	t.Helper()
	return written(t, a.msg(worker, values...))
}

// sent is a worker's reply to it, on its way to the master.
func (a ask) sent(t *testing.T, worker int, values ...uint64) api.Packet {
	t.Helper()
	return packet(worker+1, 0, a.reply(t, worker, values...))
}

// values are as many as it asks for, some others for each number from.
func (a ask) values(from int) []uint64 {
	top := sample.Prime(a.p.Field) - 1
	switch from % 4 {
	case 0:
		return slices.Repeat([]uint64{top}, a.outs)
	case 1:
		return make([]uint64, a.outs)
	case 2:
		return sample.EdgeBlocks(a.p.Field, from, 1, a.outs)[0]
	}
	return sample.Run(a.p.Field, from, a.outs)
}

// By the words of the chapter.

func (a ask) mayBy() bool {
	return plan.May(a.p) && a.outs >= 0 && a.outs <= mostOuts && a.round >= 0 && a.round <= lastRound
}

// wellBy finds the Values at their places, and holds the one form of such a reply against the bytes.
func (a ask) wellBy(from int, b []byte) (api.Reply, api.Errno) {
	if !a.mayBy() {
		return api.Reply{}, 2
	}
	size := 8
	if a.p.Field == api.Small {
		size = 4
	}
	if from < 1 || from > a.p.N || len(b) != atValues+a.outs*size+8 {
		return api.Reply{}, 8
	}
	values := make([]uint64, a.outs)
	for i := range values {
		for _, c := range b[atValues+i*size:][:size] {
			values[i] = values[i]<<8 | uint64(c)
		}
	}
	want, e := codec.Write(a.msg(from-1, values...))
	if e != 0 || !bytes.Equal(b, want) {
		return api.Reply{}, 8
	}
	return r(from-1, values...), 0
}

func (a ask) firstBy(l []api.Packet) ([]api.Reply, api.Errno) {
	if !a.mayBy() {
		return nil, 2
	}
	var all []api.Reply
	for _, one := range l {
		r, e := a.wellBy(one.From, one.Bytes)
		isHeard := slices.ContainsFunc(all, func(other api.Reply) bool { return other.Worker == r.Worker })
		if one.To == 0 && e == 0 && !isHeard {
			all = append(all, r)
		}
	}
	return all, 0
}

func readyBy(p api.Plan, outs int, l []api.Reply) (api.Result, bool, api.Errno) {
	result, e := regain.Recover(p, outs, l...)
	if e == 7 {
		return api.Result{}, false, 0
	}
	return result, e == 0, e
}

func wantWell(t *testing.T, a ask, from int, b []byte, want api.Reply, e api.Errno) {
	t.Helper()
	if got, gotE := Well(a.p, a.outs, a.round, from, b); !same(got, want) || gotE != e {
		t.Errorf("Well(%s, %d; %.60x of %d bytes) = %s, %d, not %s, %d", a, from, b, len(b), brief(got), gotE, brief(want), e)
	}
}

// wantForm has bytes be no well-formed reply, also by the words.
func wantForm(t *testing.T, a ask, from int, b []byte) {
	t.Helper()
	if _, e := a.wellBy(from, b); e != 8 {
		t.Errorf("%s, %d: %.60x is expected to be none, by the words it is %d", a, from, b, e)
	}
	wantWell(t, a, from, b, api.Reply{}, 8)
}

// wantWellBy has Well answer as the words tell, and tells the error.
func wantWellBy(t *testing.T, a ask, from int, b []byte) api.Errno {
	t.Helper()
	want, e := a.wellBy(from, b)
	wantWell(t, a, from, b, want, e)
	return e
}

func wantFirst(t *testing.T, a ask, l []api.Packet, want []api.Reply, e api.Errno) {
	t.Helper()
	if got, gotE := First(a.p, a.outs, a.round, l...); !slices.EqualFunc(got, want, same) || gotE != e {
		t.Errorf("First(%s; %s) = %s, %d, not %s, %d", a, brief(l), brief(got), gotE, brief(want), e)
	}
}

// wantFirstBy has First answer as the words tell, and tells how many are heard.
func wantFirstBy(t *testing.T, a ask, l []api.Packet) int {
	t.Helper()
	want, e := a.firstBy(l)
	wantFirst(t, a, l, want, e)
	return len(want)
}

func wantReady(t *testing.T, p api.Plan, outs int, l []api.Reply, want api.Result, isReady bool, e api.Errno) {
	t.Helper()
	if got, ok, gotE := Ready(p, outs, l...); !sameResult(got, want) || ok != isReady || gotE != e {
		t.Errorf("Ready(%v, %d; %s) = %s, %t, %d, not %s, %t, %d", p, outs, brief(l), brief(got), ok, gotE, brief(want), isReady, e)
	}
}

// wantNotReady has there be too few replies, and nothing wrong.
func wantNotReady(t *testing.T, p api.Plan, outs int, l []api.Reply) {
	t.Helper()
	wantReady(t, p, outs, l, api.Result{}, false, 0)
}

// told is how Ready may answer.
type told struct {
	isReady bool
	e       api.Errno
}

// wantReadyBy has Ready answer as the words tell, and tells which way.
func wantReadyBy(t *testing.T, p api.Plan, outs int, l []api.Reply) told {
	t.Helper()
	want, isReady, e := readyBy(p, outs, l)
	wantReady(t, p, outs, l, want, isReady, e)
	return told{isReady, e}
}

// asks are of all plans that may be, accepted or not; the outs and the rounds take turns, both ends among them.
func asks() []ask {
	var all []ask
	rounds := sample.Below(lastRound + 1)
	for i, p := range sample.Plans() {
		for j, outs := range []int{0, 1, 2 + i%61, mostOuts} {
			all = append(all, ask{p, outs, rounds[(i+j)%len(rounds)]})
		}
	}
	return all
}

// few are some of them: of both fields, one worker and many, no outs and as many as there may be.
func few() []ask {
	return []ask{
		{example, 1, 0},
		{sample.With(example, api.Large, 1), 3, 258},
		{sample.Plan(1, 1, 0, 0, 0, 1), 2, lastRound},
		{sample.With(sample.Plan(64, 3, 1, 0, 5, 2), api.Large, 2), mostOuts, 7},
		{sample.Plan(12, 2, 2, 1, 1, 1), 0, 40000},
		{sample.With(sample.Plan(2, 64, 0, 64, 64, 1024), api.Small, 64), 5, 1},
	}
}

func TestExamples(t *testing.T) {
	a := ask{example, 1, 0}
	it, other := a.reply(t, 2, 15), a.reply(t, 2, 16)
	wantWell(t, a, 3, it, r(2, 15), 0)
	wantWell(t, a, 2, it, api.Reply{}, 8)
	wantWell(t, ask{example, 1, 1}, 3, it, api.Reply{}, 8)
	wantWell(t, ask{example, 2, 0}, 3, it, api.Reply{}, 8)
	wantFirst(t, a, []api.Packet{packet(3, 0, it), packet(3, 0, other), packet(3, 1, it)}, replies(r(2, 15)), 0)
	wantNotReady(t, example, 1, replies(r(2, 15)))
}

// P25.1: Well

// Bytes by hand, of the round 3 and of the last one.
func TestWellByHand(t *testing.T) {
	small, large := ask{example, 1, 3}, ask{sample.With(sample.Plan(11, 3, 1, 0, 2, 2), api.Large, 1), 1, lastRound}
	it := hexed("000000120200000003000000000100000001000000790f547b51c9410339")
	last := hexed("00000016020000ffff0000000a020000000100000000ffffffffbf31eaad8f795864")
	wantWell(t, small, 1, it, r(0, 121), 0)
	wantWell(t, large, 11, last, r(10, 4294967295), 0)
	wantWell(t, small, 11, last, api.Reply{}, 8)
	wantWell(t, large, 1, it, api.Reply{}, 8)
	// A share message of the same round, for the same worker, with one value.
	wantWell(t, small, 1, hexed("0000001201000000030000000001000000010000000bcef9436cdcb1ef04"), api.Reply{}, 8)
}

func TestWell(t *testing.T) {
	asked := 0
	for i, a := range asks() {
		for _, worker := range sample.Mixed(i, a.p.N)[:min(4, a.p.N)] {
			for from := range 4 {
				values := a.values(4*asked + from)
				wantWell(t, a, worker+1, a.reply(t, worker, values...), r(worker, values...), 0)
				asked++
			}
		}
	}
	if asked < 2000 {
		t.Errorf("only %d were asked", asked)
	}
}

// Each worker's message from each node: it is well-formed just from the worker's own one, and from that only if there is such a worker.
func TestWellOfEachWorkerAndNode(t *testing.T) {
	for _, f := range sample.Fields() {
		for _, n := range []int{1, 2, 5, 63, 64} {
			a := ask{sample.With(sample.Plan(n, 1, 0, 0, 0, 1), f, 1), 2, 9}
			for worker := range 64 {
				b := a.reply(t, worker, 3, 4)
				froms := append(sample.NotBelow(65), math.MinInt+1+worker, math.MaxInt-64+worker, worker+1-1<<32, worker+1+1<<32, worker+257, worker-255)
				for from := -2; from < 70; from++ {
					froms = append(froms, from)
				}
				for _, from := range froms {
					if from == worker+1 && worker < n {
						wantWell(t, a, from, b, r(worker, 3, 4), 0)
					} else {
						wantForm(t, a, from, b)
					}
				}
			}
		}
	}
}

// Each number of outs with each number of Values.
func TestWellOfEachNumberOfValues(t *testing.T) {
	for _, f := range sample.Fields() {
		for many := range mostOuts + 1 {
			values := sample.Run(f, many, many)
			for outs := range mostOuts + 1 {
				a := ask{sample.With(example, f, 1), outs, 5}
				b := a.reply(t, 4, values...)
				if many == outs {
					wantWell(t, a, 5, b, r(4, values...), 0)
				} else {
					wantForm(t, a, 5, b)
				}
			}
		}
	}
}

// Each round that is asked for with messages of others.
func TestWellOfEachRound(t *testing.T) {
	for _, f := range sample.Fields() {
		p := sample.With(example, f, 1)
		for _, round := range sample.Below(lastRound + 1) {
			a := ask{p, 1, round}
			b := a.reply(t, 0, 6)
			for _, other := range append(sample.Below(lastRound+1), round^1, round^256, round^32768) {
				if other == round {
					wantWell(t, a, 1, b, r(0, 6), 0)
				} else {
					wantForm(t, ask{p, 1, other}, 1, b)
				}
			}
		}
	}
}

// Each element at each place, the kinds and the fields in turn: those of Small are elements of Large, too.
func TestWellOfEachElement(t *testing.T) {
	for _, f := range sample.Fields() {
		for _, outs := range []int{1, 2, 3, mostOuts} {
			a := ask{sample.With(example, f, 1), outs, 5}
			for at := range outs {
				for _, value := range sample.Edges(f) {
					values := sample.Run(f, 5, outs)
					values[at] = value
					b := a.reply(t, 2, values...)
					wantWell(t, a, 3, b, r(2, values...), 0)
					other := a
					other.p.Field = api.Small + api.Large - f
					wantForm(t, other, 3, b)
					share := a.msg(2, values...)
					share.Kind = 1
					wantForm(t, a, 3, written(t, share))
				}
			}
		}
	}
}

// Without Values a reply has its field all the same.
func TestWellWithoutValues(t *testing.T) {
	for _, f := range sample.Fields() {
		a, other := ask{sample.With(example, f, 1), 0, 5}, ask{sample.With(example, api.Small+api.Large-f, 1), 0, 5}
		for _, none := range [][]uint64{nil, {}} {
			wantWell(t, a, 3, a.reply(t, 2, none...), r(2), 0)
			wantForm(t, a, 3, other.reply(t, 2, none...))
		}
	}
}

// Messages that are well-formed but for one thing, or for several.
func TestWellOfVariants(t *testing.T) {
	for i, a := range append(few(), asks()...) {
		for worker := range min(a.p.N, 2) {
			worker = (a.p.N - 1) * worker
			m := a.msg(worker, a.values(i)...)
			for _, v := range sample.Variants(m) {
				wantForm(t, a, worker+1, written(t, v))
				// From its own worker's node it is another worker's reply, if it is one but for that.
				wantWellBy(t, a, v.Worker+1, written(t, v))
			}
		}
	}
}

// insides are bytes that are sealed as a message's are, made of what is sealed in b: most of them are no message's.
func insides(t *testing.T, b []byte) [][]byte {
	t.Helper()
	inside, _, e := wire.Unseal(b)
	if e != 0 {
		t.Fatalf("%x: %d", b, e)
	}
	all := sample.Garbled(inside)
	for i := range all {
		all[i], e = wire.Seal(all[i])
		if e != 0 {
			t.Fatalf("Seal: %d", e)
		}
	}
	return all
}

// Each byte turned, one missing, one more, none; and the same within, where the sum is right: then another Value may stand there, and nothing else.
func TestWellOfGarbledBytes(t *testing.T) {
	seen := map[api.Errno]int{}
	for i, a := range few() {
		for from := range 4 {
			worker := (a.p.N - 1) * (from % 2)
			b := a.reply(t, worker, a.values(i+from)...)
			for _, none := range sample.Garbled(b) {
				wantForm(t, a, worker+1, none)
			}
			for _, sealed := range insides(t, b) {
				seen[wantWellBy(t, a, worker+1, sealed)]++
				if len(sealed) != len(b) || !bytes.Equal(sealed[4:atValues], b[4:atValues]) {
					wantForm(t, a, worker+1, sealed)
				}
			}
		}
	}
	if seen[0] < 200 || seen[8] < 1000 || len(seen) != 2 {
		t.Errorf("the errors were told so often: %v", seen)
	}
}

// All kinds of messages, with no bytes made for them.
func TestWellOfAllMessages(t *testing.T) {
	well := 0
	for i, m := range sample.Msgs() {
		b := written(t, m)
		for _, p := range []api.Plan{sample.Plan(64, 1, 0, 0, 0, 1), sample.With(sample.Plan(2, 1, 1, 0, 0, 1), api.Large, 1)} {
			for _, outs := range []int{len(m.Values), 1, mostOuts} {
				if wantWellBy(t, ask{p, outs, m.Round}, m.Worker+1, b) == 0 {
					well++
				}
				wantWellBy(t, ask{p, outs, i % 3}, m.Worker+1, b)
			}
		}
	}
	if well < 300 {
		t.Errorf("only %d were well-formed", well)
	}
}

// P25.1: First

func TestFirstOfNone(t *testing.T) {
	for _, a := range asks() {
		wantFirst(t, a, nil, nil, 0)
		wantFirst(t, a, []api.Packet{}, nil, 0)
		wantFirst(t, a, []api.Packet{{}}, nil, 0)
	}
}

func TestFirstByHand(t *testing.T) {
	a := ask{example, 1, 0}
	it, twin, other := a.reply(t, 2, 15), a.reply(t, 2, 15), a.reply(t, 2, 16)
	first, last := a.reply(t, 0, 0), a.reply(t, 4, 7)
	late, share := ask{example, 1, 1}.reply(t, 2, 15), a.msg(2, 15)
	share.Kind = 1
	for i, c := range []struct {
		l    []api.Packet
		want []api.Reply
	}{
		{[]api.Packet{packet(3, 0, it)}, replies(r(2, 15))},
		// To other nodes.
		{[]api.Packet{packet(3, 1, it)}, nil},
		{[]api.Packet{packet(3, 3, it)}, nil},
		{[]api.Packet{packet(3, -1, it), packet(3, 65, it), packet(3, 256, it), packet(3, 1<<32, it), packet(3, math.MinInt, it)}, nil},
		{[]api.Packet{packet(3, 1, other), packet(3, 0, it)}, replies(r(2, 15))},
		{[]api.Packet{packet(3, -1, other), packet(3, 0, it), packet(3, 2, it)}, replies(r(2, 15))},
		// From other nodes.
		{[]api.Packet{packet(2, 0, it), packet(4, 0, it), packet(0, 0, it), packet(-1, 0, it), packet(6, 0, it), packet(math.MinInt, 0, it), packet(math.MaxInt, 0, it)}, nil},
		{[]api.Packet{packet(2, 0, other), packet(3, 0, it)}, replies(r(2, 15))},
		// Who speaks in another one's name is heard in its own.
		{[]api.Packet{packet(1, 0, it), packet(1, 0, first), packet(3, 0, other)}, replies(r(0, 0), r(2, 16))},
		// A second one: the same, another.
		{[]api.Packet{packet(3, 0, it), packet(3, 0, twin)}, replies(r(2, 15))},
		{[]api.Packet{packet(3, 0, it), packet(3, 0, other)}, replies(r(2, 15))},
		{[]api.Packet{packet(3, 0, other), packet(3, 0, it), packet(3, 0, it)}, replies(r(2, 16))},
		// What is none, ahead of one.
		{[]api.Packet{packet(3, 0, nil), packet(3, 0, it[1:]), packet(3, 0, late), packet(3, 0, written(t, share)), packet(3, 0, it)}, replies(r(2, 15))},
		{[]api.Packet{packet(3, 0, ask{example, 2, 0}.reply(t, 2, 15, 15)), packet(3, 0, it), packet(3, 0, nil)}, replies(r(2, 15))},
		// In the order of coming.
		{[]api.Packet{packet(1, 0, first), packet(3, 0, it), packet(5, 0, last)}, replies(r(0, 0), r(2, 15), r(4, 7))},
		{[]api.Packet{packet(5, 0, last), packet(3, 0, it), packet(1, 0, first)}, replies(r(4, 7), r(2, 15), r(0, 0))},
		{[]api.Packet{packet(5, 0, last), packet(1, 0, first), packet(5, 0, last), packet(3, 0, it), packet(1, 0, first)}, replies(r(4, 7), r(0, 0), r(2, 15))},
	} {
		if got, e := First(example, 1, 0, c.l...); !slices.EqualFunc(got, c.want, same) || e != 0 {
			t.Errorf("%d: First = %v, %d, not %v", i, got, e, c.want)
		}
		wantFirstBy(t, a, c.l)
	}
}

// pile are packets of all kinds, about the first worker, about the last one, and about others.
func (a ask) pile(t *testing.T) []api.Packet {
	t.Helper()
	last := a.p.N - 1
	share, late, short := a.msg(0, a.values(3)...), a.msg(0, a.values(3)...), a.msg(0, make([]uint64, (a.outs+1)%65)...)
	share.Kind, late.Round = 1, (a.round+1)%(lastRound+1)
	return []api.Packet{
		a.sent(t, 0, a.values(3)...),
		a.sent(t, 0, a.values(4)...),
		packet(1, 1, a.reply(t, 0, a.values(5)...)),
		packet(1, 0, a.reply(t, 0, a.values(6)...)[1:]),
		packet(1, 0, written(t, share)),
		packet(1, 0, written(t, late)),
		packet(1, 0, written(t, short)),
		packet(0, 0, a.reply(t, 0, a.values(7)...)),
		packet(last+1, 0, a.reply(t, last/2, a.values(7)...)),
		packet(last+2, 0, a.reply(t, min(last+1, 63), a.values(8)...)),
		packet(last+1, -1, a.reply(t, last, a.values(9)...)),
		a.sent(t, last, a.values(10)...),
	}
}

// Every list of up to four of the pile.
func TestFirstOfEveryOrder(t *testing.T) {
	for _, a := range few()[:3] {
		pile := a.pile(t)
		lists, heard := [][]api.Packet{nil}, 0
		for range 4 {
			var longer [][]api.Packet
			for _, l := range lists {
				for _, one := range pile {
					longer = append(longer, append(slices.Clone(l), one))
				}
			}
			lists = longer
			for _, l := range lists {
				heard += wantFirstBy(t, a, l)
			}
		}
		if heard < 5000 {
			t.Errorf("%s: only %d were heard", a, heard)
		}
	}
}

// steered are n packets without any order of all workers, most of which are well-formed, some others for each number from.
func (a ask) steered(t *testing.T, from, n int) []api.Packet {
	t.Helper()
	var l []api.Packet
	for i, draw := range sample.Scattered(api.Large, from+n)[from:] {
		worker := int(draw % uint64(a.p.N))
		m := a.msg(worker, a.values(i)...)
		one := packet(worker+1, 0, nil)
		switch draw >> 8 % 16 {
		case 0:
			one.To = int(draw>>16%70) - 2
		case 1:
			one.From = int(draw>>16%70) - 2
		case 2:
			all := sample.Variants(m)
			m = all[draw>>16%uint64(len(all))]
		case 3:
			m.Worker = int(draw >> 16 % 64)
		case 4:
			all := sample.Garbled(a.reply(t, worker, m.Values...))
			one.Bytes = all[draw>>16%uint64(len(all))]
			l = append(l, one)
			continue
		}
		one.Bytes = written(t, m)
		l = append(l, one)
	}
	return l
}

// Long lists: of more packets than workers, up to as many as there may be under way.
func TestFirstOfManyPackets(t *testing.T) {
	for i, a := range few() {
		most := 0
		for _, n := range []int{1, 10, 64, 65, 700} {
			for from := range 5 {
				most = max(most, wantFirstBy(t, a, a.steered(t, 1000*from+i, n)))
			}
		}
		if most != a.p.N {
			t.Errorf("%s: at most %d were heard", a, most)
		}
	}
	a := ask{sample.Plan(64, 3, 1, 0, 5, 2), 2, 7}
	wantFirstBy(t, a, a.steered(t, 3, 4096))
	wantFirstBy(t, a, slices.Repeat(a.steered(t, 4, 60), 70))
}

// All workers' replies, in every order of few, in some of many: they stand in the order in which they came.
func TestFirstStandInOrder(t *testing.T) {
	for i, a := range few() {
		var orders [][]int
		if a.p.N <= 5 {
			orders = everyOrder(sample.Inputs(a.p.N))
		}
		for from := range 20 {
			orders = append(orders, sample.Mixed(from, a.p.N))
		}
		for from, order := range append(orders, sample.Inputs(a.p.N)) {
			var l []api.Packet
			var want []api.Reply
			for _, worker := range order {
				values := a.values(i + from + worker)
				l = append(l, a.sent(t, worker, values...))
				want = append(want, r(worker, values...))
			}
			wantFirst(t, a, l, want, 0)
			wantFirst(t, a, slices.Concat(l, l[:len(l)/2], l), want, 0)
			slices.Reverse(want)
			backward := slices.Clone(l)
			slices.Reverse(backward)
			wantFirst(t, a, append(backward, l...), want, 0)
		}
	}
}

// everyOrder are all orders of a list.
func everyOrder(l []int) [][]int {
	if len(l) == 0 {
		return [][]int{nil}
	}
	var all [][]int
	for i, first := range l {
		for _, rest := range everyOrder(slices.Concat(l[:i], l[i+1:])) {
			all = append(all, append([]int{first}, rest...))
		}
	}
	return all
}

// Each worker alone.
func TestFirstOfEachWorker(t *testing.T) {
	for i, a := range asks() {
		for worker := range a.p.N {
			values := a.values(i + worker)
			one := a.sent(t, worker, values...)
			wantFirst(t, a, []api.Packet{one}, replies(r(worker, values...)), 0)
		}
	}
}

// P25.2

// game is a plan with a program, the honest replies of all its workers to some data and pads, and what is right to be told of them.
type game struct {
	p      api.Plan
	prog   api.Prog
	honest []api.Reply
	right  api.Result
}

func gameOf(t *testing.T, p api.Plan, prog api.Prog) game {
	t.Helper()
	data, pads := sample.Blocks(p.Field, p.N, p.K, p.Width), sample.Blocks(p.Field, 3*p.N, p.T, p.Width)
	g := game{p: p, prog: prog}
	var e api.Errno
	if g.right.Results, e = reply.Results(p, prog, data); e != 0 {
		t.Fatalf("Results(%v, %s): %d", p, brief(prog), e)
	}
	g.right.Polys, _ = reply.Polys(p, prog, data, pads)
	for worker := range p.N {
		values, e := reply.Honest(p, prog, data, pads, worker)
		if e != 0 {
			t.Fatalf("Honest(%v, %s, %d): %d", p, brief(prog), worker, e)
		}
		g.honest = append(g.honest, r(worker, values...))
	}
	return g
}

func (g game) outs() int { return len(g.prog.Outs) }

// games are of both fields, of one worker and of many, with an E and without; without outs, with one, with many; of some of their plans no replies are enough, some are not accepted for S alone.
func games(t *testing.T) []game {
	t.Helper()
	var all []game
	constant := api.Prog{Inputs: 1, Ops: []api.Op{{Kind: api.OConst, C: 7}}, Outs: []int{1, 1}}
	same := api.Prog{Inputs: 3, Outs: []int{2, 0, 1, 0}}
	for _, f := range sample.Fields() {
		for _, c := range []struct {
			p    api.Plan
			prog api.Prog
		}{
			{example, api.Prog{Inputs: 1, Outs: []int{0}}},
			{example, api.Prog{Inputs: 1}},
			{sample.Plan(7, 2, 1, 1, 1, 1), api.Prog{Inputs: 1, Outs: []int{0}}},
			{sample.Plan(1, 1, 0, 0, 0, 3), sample.Raise(3)},
			{sample.Plan(2, 1, 0, 0, 0, 3), api.Prog{Inputs: 1, Outs: slices.Repeat([]int{0}, 64)}},
			{sample.Plan(4, 2, 1, 0, 1, 0), constant},
			{sample.Plan(13, 3, 1, 64, 2, 2), sample.Raise(2)},
			{sample.With(sample.Plan(14, 2, 1, 1, 4, 1), f, 3), same},
			{sample.Plan(64, 4, 2, 0, 20, 2), sample.Raise(2)},
			{sample.Plan(4, 2, 1, 0, 1, 1), api.Prog{Inputs: 1, Outs: []int{0}}},
			{sample.With(sample.Plan(64, 64, 0, 0, 0, 1), f, 3), same},
		} {
			c.p.Field = f
			all = append(all, gameOf(t, c.p, c.prog))
		}
	}
	return all
}

// needed is how many replies a plan needs, by the words of chapter 12.
func needed(p api.Plan) int { return p.Degree*(p.K+p.T-1) + 2*p.E + 1 }

// some are the replies of n workers, in another order for each number from, of which the first so many are lies.
func (g game) some(from, n, lies int) []api.Reply {
	var l []api.Reply
	for i, worker := range sample.Mixed(from, g.p.N)[:n] {
		values := slices.Clone(g.honest[worker].Values)
		if i < lies && len(values) > 0 {
			out := (from + i) % len(values)
			values[out] = (values[out] + 1 + uint64(i)*uint64(i)) % sample.Prime(g.p.Field)
		}
		l = append(l, r(worker, values...))
	}
	return l
}

// rightOf is what is right to be told of replies: the wrong workers are those that say something else than the honest ones.
func (g game) rightOf(l []api.Reply) api.Result {
	right := g.right
	for _, one := range l {
		if !same(one, g.honest[one.Worker]) {
			right.Wrong = append(right.Wrong, one.Worker)
		}
	}
	slices.Sort(right.Wrong)
	return right
}

// None, each number of fewer, just as many as are needed, more, all; with lies of up to E workers.
func TestReady(t *testing.T) {
	seen := map[bool]int{}
	for i, g := range games(t) {
		for n := range g.p.N + 1 {
			for lies := 0; lies <= min(g.p.E, n); lies += max(1, g.p.E/2) {
				l := g.some(i+n, n, lies)
				isReady := n >= needed(g.p)
				seen[isReady]++
				if isReady {
					wantReady(t, g.p, g.outs(), l, g.rightOf(l), true, 0)
				} else {
					wantNotReady(t, g.p, g.outs(), l)
				}
				wantReadyBy(t, g.p, g.outs(), l)
			}
		}
	}
	if seen[true] < 100 || seen[false] < 100 {
		t.Errorf("told so often: %v", seen)
	}
}

// One more than E lie, and there is a reply to spare: ErrMany, though one reply less might tell something.
func TestReadyOfTooManyLies(t *testing.T) {
	many := 0
	for i, g := range games(t) {
		for n := needed(g.p) + 1; n <= g.p.N && g.outs() > 0; n++ {
			l := g.some(i, n, g.p.E+1)
			wantReady(t, g.p, g.outs(), l, api.Result{}, false, 180)
			wantReadyBy(t, g.p, g.outs(), l)
			many++
		}
		if needed(g.p) <= g.p.N {
			wantReadyBy(t, g.p, g.outs(), g.some(i, needed(g.p), g.p.E+1))
			wantReadyBy(t, g.p, g.outs(), g.some(i, needed(g.p), needed(g.p)))
		}
		// As long as there are too few it is not told, however many lie.
		for n := range min(needed(g.p), g.p.N+1) {
			wantNotReady(t, g.p, g.outs(), g.some(i, n, n))
		}
	}
	if many < 30 {
		t.Errorf("only %d were asked", many)
	}
}

func TestReadyByHand(t *testing.T) {
	all := replies(r(4, 19), r(1, 13), r(2, 99), r(3, 17), r(0, 11))
	right := api.Result{Results: [][]uint64{{5}, {7}}, Polys: [][]uint64{{5, 2}}, Wrong: []int{2}}
	wantReady(t, example, 1, all, right, true, 0)
	wantNotReady(t, example, 1, all[:4])
	wantNotReady(t, example, 1, nil)
	wantReady(t, example, 1, replies(r(0, 11), r(1, 0), r(2, 99), r(3, 17), r(4, 19)), api.Result{}, false, 180)
	wantReady(t, example, 1, replies(r(0, 11), r(0, 11)), api.Result{}, false, 6)
	wantReady(t, example, 1, replies(r(5, 1)), api.Result{}, false, 2)
	wantReady(t, example, 1, replies(r(0, 11, 13)), api.Result{}, false, 2)
	// Without outs there is nothing that could be wrong.
	wantReady(t, example, 0, replies(r(0), r(1), r(2), r(3), r(4)), api.Result{Results: [][]uint64{nil, nil}}, true, 0)
	wantNotReady(t, example, 0, replies(r(0), r(1), r(2), r(3)))
	// One worker alone: none of it is too few.
	alone := sample.Plan(1, 1, 0, 0, 0, 1024)
	wantNotReady(t, alone, 1, nil)
	wantReady(t, alone, 1, replies(r(0, 8)), api.Result{Results: [][]uint64{{8}}, Polys: [][]uint64{{8}}}, true, 0)
	// A plan that needs more than it has.
	wide := sample.Plan(2, 2, 0, 0, 0, 2)
	wantNotReady(t, wide, 1, replies(r(0, 8), r(1, 8)))
}

// Every list of up to five out of replies of all kinds.
func TestReadyOfEveryOrder(t *testing.T) {
	seen := map[told]int{}
	for _, f := range sample.Fields() {
		for _, p := range []api.Plan{sample.Plan(3, 1, 1, 0, 0, 1), sample.Plan(4, 1, 0, 0, 1, 1)} {
			p.Field = f
			kinds := replies(r(0, 11), r(1, 13), r(2, 15), r(2, 11), r(0, 11, 0), r(p.N, 1), r(1, sample.Prime(f)))
			lists := [][]api.Reply{nil}
			for range 5 {
				for _, l := range lists {
					seen[wantReadyBy(t, p, 1, l)]++
				}
				var longer [][]api.Reply
				for _, l := range lists {
					for _, one := range kinds {
						longer = append(longer, append(slices.Clone(l), one))
					}
				}
				lists = longer
			}
		}
	}
	for _, want := range []told{{true, 0}, {false, 0}, {false, 2}, {false, 6}, {false, 180}} {
		if seen[want] == 0 {
			t.Errorf("%v was never told: %v", want, seen)
		}
	}
	if len(seen) != 5 {
		t.Errorf("told so often: %v", seen)
	}
}
