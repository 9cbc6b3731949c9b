package collect

// Rule 5: what is handed in stays as it is, and what is answered is new memory; and nothing is kept from call to call.

import (
	"slices"
	"testing"

	"conclave/api"
	"conclave/sample"
)

// with are the packets with other bytes.
func with(l []api.Packet, all [][]byte) []api.Packet {
	l = slices.Clone(l)
	for i := range l {
		l[i].Bytes = all[i]
	}
	return l
}

// piles are packets, some of which are heard, and some that are refused with all else.
func piles(t *testing.T) (all []ask, lists [][]api.Packet) {
	t.Helper()
	for i, a := range few() {
		lists = append(lists, a.pile(t), a.steered(t, i, 30), a.pile(t), a.pile(t)[:1], nil)
		wrong := a
		wrong.round = lastRound + 1
		all = append(all, a, a, wrong, a, a)
	}
	return all, lists
}

// The bytes of packets stay as they are, the room behind their ends too.
func TestMemoryOfBytes(t *testing.T) {
	asked, lists := piles(t)
	for i, a := range asked {
		var handed [][]byte
		for _, one := range lists[i] {
			handed = append(handed, one.Bytes)
		}
		do := func(h [][]byte) [][]byte {
			l := with(lists[i], h)
			for _, one := range l {
				Well(a.p, a.outs, a.round, one.From, one.Bytes)
			}
			First(a.p, a.outs, a.round, l...)
			return nil
		}
		if wrong := sample.Apart(do, handed...); wrong != "" {
			t.Errorf("%s: %s", a, wrong)
		}
	}
}

// The list of packets, which is handed in as it stands, is neither changed nor put in another order.
func TestMemoryOfPackets(t *testing.T) {
	asked, lists := piles(t)
	for i, a := range asked {
		do := func(h [][]api.Packet) [][]api.Packet {
			First(a.p, a.outs, a.round, h[0]...)
			First(a.p, a.outs, a.round, h[0][:len(h[0])/2]...)
			return nil
		}
		if wrong := sample.ApartPackets(do, lists[i]); wrong != "" {
			t.Errorf("%s: %s", a, wrong)
		}
	}
}

// No two replies that are told share their Values, also where their packets have one and the same list of bytes.
func TestMemoryOfValues(t *testing.T) {
	for i, a := range few() {
		do := func(h [][]uint64) [][]uint64 {
			b := a.reply(t, 0, h[0]...)
			twin, _ := Well(a.p, a.outs, a.round, 1, b)
			again, _ := Well(a.p, a.outs, a.round, 1, b)
			l := []api.Packet{packet(1, 0, b), packet(1, 0, b), a.sent(t, a.p.N-1, h[0]...)}
			first, _ := First(a.p, a.outs, a.round, l...)
			second, _ := First(a.p, a.outs, a.round, l...)
			all := [][]uint64{twin.Values, again.Values}
			for _, one := range append(first, second...) {
				all = append(all, one.Values)
			}
			return all
		}
		if wrong := sample.Apart(do, a.values(i)); wrong != "" {
			t.Errorf("%s: %s", a, wrong)
		}
	}
}

// The list of replies that Ready is handed stays as it is, and those that First tells are new ones.
func TestMemoryOfReplies(t *testing.T) {
	asked, lists := piles(t)
	for i, a := range asked {
		do := func(h [][]api.Reply) [][]api.Reply {
			Ready(a.p, a.outs, h[0]...)
			first, _ := First(a.p, a.outs, a.round, lists[i]...)
			Ready(a.p, a.outs, first...)
			half, _ := First(a.p, a.outs, a.round, lists[i][:len(lists[i])/2]...)
			return [][]api.Reply{first, half}
		}
		first, _ := First(a.p, a.outs, a.round, lists[i]...)
		if wrong := sample.ApartReplies(do, first); wrong != "" {
			t.Errorf("%s: %s", a, wrong)
		}
	}
}

// kept is replies of which Ready tells something.
type kept struct {
	p    api.Plan
	outs int
	l    []api.Reply
}

// keeps are replies that are enough, with lies and without, too few, too many lies, and such as are refused.
func keeps(t *testing.T) []kept {
	t.Helper()
	var all []kept
	for i, g := range games(t) {
		n := min(needed(g.p), g.p.N)
		for _, l := range [][]api.Reply{g.some(i, g.p.N, 0), g.some(i, n, g.p.E), g.some(i, n-1, 0), g.some(i, g.p.N, g.p.N), append(g.some(i, n, 0), g.some(i, 1, 0)...), replies(r(-1)), nil} {
			if len(l) < 20 {
				all = append(all, kept{g.p, g.outs(), l})
			}
		}
	}
	return all
}

func TestMemoryOfResults(t *testing.T) {
	for _, c := range keeps(t) {
		var handed [][]uint64
		for _, one := range c.l {
			handed = append(handed, one.Values)
		}
		do := func(h [][]uint64) [][]uint64 {
			l := slices.Clone(c.l)
			for i := range l {
				l[i].Values = h[i]
			}
			result, _, _ := Ready(c.p, c.outs, l...)
			return slices.Concat(result.Results, result.Polys)
		}
		if wrong := sample.Apart(do, handed...); wrong != "" {
			t.Errorf("Ready(%v, %d; %s): %s", c.p, c.outs, brief(c.l), wrong)
		}
		blocks := func([][][]uint64) [][][]uint64 {
			result, _, _ := Ready(c.p, c.outs, c.l...)
			return [][][]uint64{result.Results, result.Polys}
		}
		if wrong := sample.ApartBlocks(blocks); wrong != "" {
			t.Errorf("lists of Ready(%v, %d; %s): %s", c.p, c.outs, brief(c.l), wrong)
		}
		who := func([][]int) [][]int {
			result, _, _ := Ready(c.p, c.outs, c.l...)
			return [][]int{result.Wrong}
		}
		if wrong := sample.Apart(who); wrong != "" {
			t.Errorf("Wrong of Ready(%v, %d; %s): %s", c.p, c.outs, brief(c.l), wrong)
		}
	}
}

// What is written over in the bytes of packets, once they were heard, is not seen in the replies.
func TestBytesThatAreWrittenOver(t *testing.T) {
	for i, a := range few() {
		l := []api.Packet{a.sent(t, 0, a.values(i)...), a.sent(t, a.p.N-1, a.values(i)...)}
		want, _ := a.firstBy(l)
		one, _ := Well(a.p, a.outs, a.round, 1, l[0].Bytes)
		first := firstOf(t, a, l)
		for j := range l {
			sample.Scribble(l[j].Bytes)
			l[j].From, l[j].To = 99, 99
		}
		if !slices.EqualFunc(first, want, same) || !same(one, want[0]) {
			t.Errorf("%s: %s, %s, not %s", a, brief(first), brief(one), brief(want))
		}
		wantFirst(t, a, l, nil, 0)
	}
}

// What stands behind the end of bytes, of packets, of replies is none of them.
func TestRoomIsNoneOfIt(t *testing.T) {
	for i, a := range few() {
		own, late := a.sent(t, 0, a.values(i)...), a.sent(t, a.p.N-1, a.values(i+1)...)
		whole := append(slices.Clone(own.Bytes), late.Bytes...)
		n := len(own.Bytes)
		wantWell(t, a, 1, whole[:n], r(0, a.values(i)...), 0)
		wantForm(t, a, 1, whole[:n-1])
		wantForm(t, a, 1, whole[:0])
		wantForm(t, a, 1, whole)
		packets := []api.Packet{own, late}
		wantFirst(t, a, packets[:1], replies(r(0, a.values(i)...)), 0)
		wantFirst(t, a, packets[:0], nil, 0)
	}
	for i, g := range games(t) {
		if n := needed(g.p); n <= g.p.N {
			l := g.some(i, g.p.N, 0)
			wantReady(t, g.p, g.outs(), l[:n], g.right, true, 0)
			wantNotReady(t, g.p, g.outs(), l[:n-1])
			wantNotReady(t, g.p, g.outs(), l[:0])
		}
	}
}

// Lists without elements are lists that are nil.
func TestListsWithoutElements(t *testing.T) {
	a := ask{example, 0, 3}
	for _, none := range [][]byte{nil, {}} {
		wantForm(t, a, 1, none)
		wantFirst(t, a, []api.Packet{packet(1, 0, none)}, nil, 0)
	}
	for _, none := range [][]uint64{nil, {}, make([]uint64, 3)[:0]} {
		var all []api.Reply
		for worker := range 5 {
			all = append(all, api.Reply{Worker: worker, Values: none})
		}
		wantReady(t, example, 0, all, api.Result{Results: [][]uint64{nil, {}}}, true, 0)
		wantReady(t, example, 1, all, api.Result{}, false, 2)
	}
	wantNotReady(t, example, 0, []api.Reply{})
}

// Again, in the other order: the same is told, also behind calls that answered an error.
func TestNothingIsKept(t *testing.T) {
	asked, lists := piles(t)
	for range 2 {
		for i, a := range asked {
			wantFirstBy(t, a, lists[i])
			for _, one := range lists[i] {
				wantWellBy(t, a, one.From, one.Bytes)
			}
		}
		slices.Reverse(asked)
		slices.Reverse(lists)
	}
	all := keeps(t)
	for range 2 {
		for _, c := range all {
			wantReadyBy(t, c.p, c.outs, c.l)
		}
		slices.Reverse(all)
	}
}

// Packets are collected at once, of the same lists, which stay as they are.
func TestAtOnce(t *testing.T) {
	asked, lists := piles(t)
	ended := make(chan bool)
	for range 4 {
		go func() {
			defer func() { ended <- true }()
			for i, a := range asked {
				wantFirstBy(t, a, lists[i])
			}
		}()
	}
	for range 4 {
		<-ended
	}
}
