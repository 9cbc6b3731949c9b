package net

// P21.4, and every call in many orders, one behind the other.

import (
	"fmt"
	"slices"
	"testing"

	"conclave/api"
	"conclave/sample"
)

// fits has as many under way as were sent, less the delivered and the dropped ones.
func fits(t *testing.T, n *Net) {
	t.Helper()
	sent, delivered, dropped := n.Count()
	if under := len(n.Pending()); under != sent-delivered-dropped || under > mostPackets || delivered < 0 || dropped < 0 {
		t.Errorf("%d under way, %d sent, %d delivered, %d dropped", under, sent, delivered, dropped)
	}
}

// next are the calls that are tried behind any others: at the ends and within, and past them.
func (p *pair) next() []call {
	last := len(p.by.list) - 1
	number := byte(p.by.sent)
	return []call{
		{send, 0, 1, []byte{number}},
		{send, 1, 1, []byte{number, number}},
		{kind: deliver, i: 0},
		{kind: deliver, i: last},
		{kind: drop, i: 1},
		{kind: drop, i: last + 1},
		{kind: double, i: last},
		{kind: double, i: 0},
		{kind: move, i: 0, to: last},
		{kind: move, i: last, to: 0},
		{kind: move, i: 1, to: 2},
		{send, 2, 0, nil},
	}
}

// everyOrder tries all orders of so many calls, each on a copy, so that one order is not seen by the others.
func everyOrder(t *testing.T, p *pair, calls int) {
	if calls == 0 {
		return
	}
	for _, c := range p.next() {
		behind := p.copied()
		behind.do(t, c)
		everyOrder(t, behind, calls-1)
	}
	p.stands(t, "calls of its copies")
	fits(t, p.n)
}

func TestEveryOrder(t *testing.T) {
	everyOrder(t, pairOf(t, 2), 4)
	everyOrder(t, filled(t, 2, 3), 4)
}

// steered are calls without any order, the same ones each time: mostly ones that may be, places at the ends often.
func (p *pair) steered(a uint64) call {
	pick := func(many int) int {
		if many < 1 {
			return int(a % 2)
		}
		defer func() { a /= 61 }()
		switch a % 61 {
		case 0:
			return -1
		case 1:
			return many
		case 2, 3, 4:
			return many - 1
		case 5, 6, 7:
			return 0
		}
		return int(a / 61 % uint64(many))
	}
	k := kinds[a%5]
	a /= 5
	if k == send {
		return call{send, pick(p.by.nodes), pick(p.by.nodes), fmt.Append(nil, a%100000)[:a%6]}
	}
	return call{kind: k, i: pick(len(p.by.list)), to: pick(len(p.by.list))}
}

func TestLongOrders(t *testing.T) {
	for from, nodes := range []int{1, 2, 3, 30, mostNodes} {
		for _, many := range []int{0, 3, 40} {
			p := filled(t, nodes, many)
			errors := 0
			for _, a := range sample.Scattered(api.Large, 3000+from)[from:] {
				c := p.steered(a)
				if p.by.errorOf(c) != 0 {
					errors++
				}
				p.do(t, c)
				fits(t, p.n)
			}
			if errors < 60 || errors > 1500 {
				t.Errorf("%d nodes: %d errors of 3000 calls", nodes, errors)
			}
		}
	}
}

// At the limit, too: what is let in there is just what has left.
func TestLongOrdersOfFullNets(t *testing.T) {
	p := filled(t, 3, mostPackets-2)
	for i, a := range sample.Scattered(api.Large, 300) {
		c := p.steered(a)
		if i%3 == 0 {
			c = call{send, i % 3, 1, []byte{byte(i)}}
		}
		p.do(t, c)
		fits(t, p.n)
	}
}

// text is a packet as one text, unlike any other packet's.
func text(p api.Packet) string { return fmt.Sprintf("%d %d %x", p.From, p.To, p.Bytes) }

// What is delivered was sent: by that node, to that node, with just those bytes, and no more often than it was sent and doubled.
func TestWhatIsDeliveredWasSent(t *testing.T) {
	for from, nodes := range []int{1, 2, 9, mostNodes} {
		n, _ := New(nodes)
		left := map[string]int{}
		number := 0
		for _, a := range sample.Scattered(api.Large, 4000+from)[from:] {
			l := n.Pending()
			i := int(a / 8 % uint64(max(len(l), 1)))
			switch a % 8 {
			case 0, 1, 2:
				p := pk(i%nodes, number%nodes, fmt.Append(nil, number)...)
				number++
				n.Send(p.From, p.To, p.Bytes)
				left[text(p)]++
			case 3, 4:
				if p, e := n.Deliver(i); e == api.OK {
					left[text(p)]--
					if left[text(p)] < 0 {
						t.Errorf("%s was delivered, but not sent", text(p))
					}
				}
			case 5:
				if n.Drop(i) == api.OK {
					left[text(l[i])]--
				}
			case 6:
				if n.Double(i) == api.OK {
					left[text(l[i])]++
				}
			case 7:
				n.Move(i, int(a/4096%uint64(max(len(l), 1))))
			}
			fits(t, n)
		}
		for _, p := range n.Pending() {
			left[text(p)]--
		}
		for what, times := range left {
			if times != 0 {
				t.Errorf("%s: %d too few are under way", what, times)
			}
		}
	}
}

func TestMovedThereAndBack(t *testing.T) {
	for _, many := range []int{1, 2, 3, 8, 25} {
		p := filled(t, 2, many)
		before := p.n.Pending()
		for i := range many {
			for to := range many {
				if there, back := p.n.Move(i, to), p.n.Move(to, i); there != 0 || back != 0 {
					t.Errorf("Move(%d, %d) and back: %d, %d", i, to, there, back)
				}
				if got := p.n.Pending(); !slices.EqualFunc(got, before, same) {
					t.Errorf("Move(%d, %d) and back leaves %s", i, to, briefly(got))
				}
			}
		}
		wantCount(t, p.n, many, 0, 0)
	}
}

func TestMovedFromEndToEnd(t *testing.T) {
	p := filled(t, 2, mostPackets)
	last := mostPackets - 1
	for _, c := range [][2]int{{0, last}, {last, 0}, {last, last - 1}, {0, 1}, {2047, 2048}, {5, 5}, {last, 1}, {1, last}} {
		p.do(t, call{kind: move, i: c[0], to: c[1]})
	}
	wantCount(t, p.n, mostPackets, 0, 0)
}
