package collect

// P25.3: what follows.

import (
	"slices"
	"testing"

	"conclave/api"
	"conclave/codec"
	"conclave/disk"
	"conclave/sample"
	"conclave/worker"
)

// firstOf is what First answers to what may be asked.
func firstOf(t *testing.T, a ask, l []api.Packet) []api.Reply {
	t.Helper()
	first, e := First(a.p, a.outs, a.round, l...)
	if e != 0 {
		t.Fatalf("First(%s): %d", a, e)
	}
	return first
}

// wantBegins has a list begin with another one.
func wantBegins(t *testing.T, l, beginning []api.Reply) {
	t.Helper()
	if len(l) < len(beginning) || !slices.EqualFunc(l[:len(beginning)], beginning, same) {
		t.Errorf("%s does not begin with %s", brief(l), brief(beginning))
	}
}

// The first replies of some packets, and of more behind them, begin alike: cut at each place.
func TestFirstBeginAlike(t *testing.T) {
	for i, a := range few() {
		for from := range 4 {
			l := a.steered(t, 500*from+i, 150)
			whole := firstOf(t, a, l)
			var before []api.Reply
			for n := range len(l) + 1 {
				first := firstOf(t, a, l[:n])
				wantBegins(t, whole, first)
				wantBegins(t, first, before)
				if len(first) > len(before)+1 {
					t.Errorf("one packet makes %s of %s", brief(first), brief(before))
				}
				before = first
			}
			other := a.steered(t, 500*from+i+77, 150)
			wantBegins(t, firstOf(t, a, slices.Concat(l, other)), whole)
			wantBegins(t, firstOf(t, a, slices.Concat(l, l)), whole)
			if n := len(firstOf(t, a, slices.Concat(l, l))); n != len(whole) {
				t.Errorf("the same packets once more tell %d replies, not %d", n, len(whole))
			}
		}
	}
}

// None is of a worker that stands there already, and of each there is a packet to the master from the worker's own node, the first of all that could be told.
func TestWhereFirstComeFrom(t *testing.T) {
	for i, a := range few() {
		for from := range 6 {
			l := a.steered(t, 300*from+i, 200)
			var workers, places []int
			for _, one := range firstOf(t, a, l) {
				place := slices.IndexFunc(l, func(sent api.Packet) bool {
					m, e := codec.Read(sent.Bytes)
					isIts := sent.To == 0 && sent.From == one.Worker+1 && m.Worker == one.Worker
					return e == 0 && isIts && m.Kind == 2 && m.Round == a.round && m.Field == a.p.Field && len(m.Values) == a.outs
				})
				if place < 0 {
					t.Fatalf("%s: nobody sent %s", a, brief(one))
				}
				if m, _ := codec.Read(l[place].Bytes); !slices.Equal(m.Values, one.Values) {
					t.Errorf("%s: first came %s, not %s", a, sample.Brief(m.Values), brief(one))
				}
				if slices.Contains(workers, one.Worker) || one.Worker < 0 || one.Worker >= a.p.N {
					t.Errorf("%s: the worker %d is told behind %v", a, one.Worker, workers)
				}
				workers, places = append(workers, one.Worker), append(places, place)
			}
			if !slices.IsSorted(places) {
				t.Errorf("%s: the replies stand in the order %v of the packets", a, places)
			}
		}
	}
}

// forged are packets in a worker's name that come from all other nodes, with other values.
func (a ask) forged(t *testing.T, worker int) []api.Packet {
	t.Helper()
	var l []api.Packet
	for from := -2; from < 68; from++ {
		if from != worker+1 {
			l = append(l, packet(from, 0, a.reply(t, worker, a.values(from+2)...)))
		}
	}
	return l
}

// Whatever others send in a worker's name, ahead of its own reply and behind it, is not heard.
func TestOthersInItsName(t *testing.T) {
	for i, a := range few() {
		for from := range 3 {
			var honest, all []api.Packet
			for _, worker := range sample.Mixed(from, a.p.N) {
				own := a.sent(t, worker, a.values(i+worker)...)
				honest = append(honest, own)
				forged := a.forged(t, worker)
				wantFirst(t, a, forged, nil, 0)
				wantFirst(t, a, append(forged, own), replies(r(worker, a.values(i+worker)...)), 0)
				if worker%8 == 0 {
					all = append(all, forged...)
				}
				all = append(all, own)
			}
			want := firstOf(t, a, honest)
			if len(want) != a.p.N {
				t.Errorf("%s: %d are heard", a, len(want))
			}
			wantFirst(t, a, all, want, 0)
			for worker := range min(a.p.N, 3) {
				wantFirst(t, a, slices.Concat(a.forged(t, worker), honest), want, 0)
				wantFirst(t, a, slices.Concat(honest, a.forged(t, worker)), want, 0)
			}
		}
	}
}

// A worker's first reply stays its reply, whatever it sends behind it, and whatever was none ahead of it.
func TestFirstReplyStays(t *testing.T) {
	for i, a := range few() {
		for _, worker := range slices.Compact([]int{0, a.p.N / 2, a.p.N - 1}) {
			own := a.sent(t, worker, a.values(i)...)
			want := replies(r(worker, a.values(i)...))
			var none []api.Packet
			for _, b := range sample.Garbled(own.Bytes) {
				none = append(none, packet(worker+1, 0, b))
			}
			for _, v := range sample.Variants(a.msg(worker, a.values(i)...)) {
				none = append(none, packet(worker+1, 0, written(t, v)))
			}
			var more []api.Packet
			for from := range 8 {
				more = append(more, a.sent(t, worker, a.values(i+from)...))
			}
			wantFirst(t, a, slices.Concat(none, []api.Packet{own}, more, none), want, 0)
			wantFirst(t, a, append([]api.Packet{own}, a.steered(t, i, 99)...), append(want, firstOf(t, a, a.without(worker, a.steered(t, i, 99)))...), 0)
		}
	}
}

// without are the packets that come from other nodes than a worker's.
func (a ask) without(worker int, l []api.Packet) []api.Packet {
	return slices.DeleteFunc(slices.Clone(l), func(one api.Packet) bool { return one.From == worker+1 })
}

// Packet by packet: the result is there by the very packet with which the replies are enough, and stays the same, whatever comes of it, as long as no more than E lie.
func TestReadyByTheVeryPacket(t *testing.T) {
	ready := 0
	for i, g := range games(t) {
		a := ask{g.p, g.outs(), 9}
		all := g.some(i, g.p.N, g.p.E)
		var came []api.Packet
		for _, one := range all {
			values := slices.Clone(one.Values)
			for out := range values {
				values[out] = 7
			}
			came = append(came, packet(one.Worker+2, 0, a.reply(t, one.Worker, values...)), a.sent(t, one.Worker, one.Values...), a.sent(t, one.Worker, values...))
		}
		for n := range len(came) + 1 {
			first := firstOf(t, a, came[:n])
			if want := (n + 1) / 3; len(first) != want {
				t.Fatalf("%s: %d of %d packets are heard, not %d", a, len(first), n, want)
			}
			if len(first) < needed(g.p) {
				wantNotReady(t, g.p, g.outs(), first)
				continue
			}
			wantReady(t, g.p, g.outs(), first, g.rightOf(first), true, 0)
			ready++
		}
	}
	if ready < 150 {
		t.Errorf("only %d were ready", ready)
	}
}

// What workers answer to their shares is well-formed, from their own nodes alone.
func TestWhatWorkersAnswer(t *testing.T) {
	for _, g := range games(t) {
		if g.outs() == 0 || g.p.N < needed(g.p)+g.p.S {
			continue
		}
		a := ask{g.p, g.outs(), 300}
		var l []api.Packet
		var want []api.Reply
		for id := range g.p.N {
			w, e := worker.New(g.p, g.prog, id, disk.New())
			if e != 0 {
				t.Fatalf("the worker %d of %v: %d", id, g.p, e)
			}
			share := a.msg(id, sample.Run(g.p.Field, id, g.p.Width)...)
			share.Kind = 1
			out, e := w.On(written(t, share))
			m, readE := codec.Read(out)
			if e != 0 || readE != 0 {
				t.Fatalf("the worker %d of %v: %d, %d", id, g.p, e, readE)
			}
			wantWell(t, a, id+1, out, r(id, m.Values...), 0)
			l, want = append(l, packet(id+1, 0, written(t, share)), packet(id+1, 0, out), packet(id+2, 0, out)), append(want, r(id, m.Values...))
		}
		wantFirst(t, a, l, want, 0)
	}
}
