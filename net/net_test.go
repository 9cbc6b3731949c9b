package net

// P21.1 to P21.3: what each call answers, and the chapter's examples.

import (
	"bytes"
	"fmt"
	"slices"
	"testing"

	"conclave/api"
)

// The limits, as the document writes them.
const (
	mostNodes   = 65
	mostPackets = 4096
	mostBytes   = 1048576
)

func pk(from, to int, b ...byte) api.Packet { return api.Packet{From: from, To: to, Bytes: b} }

func same(a, b api.Packet) bool {
	return a.From == b.From && a.To == b.To && bytes.Equal(a.Bytes, b.Bytes)
}

// kind is which of the calls that may change a net is done.
type kind int

const (
	send kind = iota
	deliver
	drop
	double
	move
)

var kinds = []kind{send, deliver, drop, double, move}

// call is one of them: i and to are a Send's nodes, the others' places.
type call struct {
	kind  kind
	i, to int
	b     []byte
}

func (c call) String() string {
	name := []string{"Send", "Deliver", "Drop", "Double", "Move"}[c.kind]
	return fmt.Sprintf("%s(%d, %d, %s)", name, c.i, c.to, brief(c.b))
}

// brief tells bytes that may be many.
func brief(b []byte) string { return fmt.Sprintf("%.20x of %d", b, len(b)) }

func briefly(l []api.Packet) string {
	s := fmt.Sprintf("%d:", len(l))
	for _, p := range l[:min(len(l), 12)] {
		s += fmt.Sprintf(" %d to %d %s;", p.From, p.To, brief(p.Bytes))
	}
	return s
}

func done(n *Net, c call) (api.Packet, api.Errno) {
	switch c.kind {
	case send:
		return api.Packet{}, n.Send(c.i, c.to, c.b)
	case deliver:
		return n.Deliver(c.i)
	case drop:
		return api.Packet{}, n.Drop(c.i)
	case double:
		return api.Packet{}, n.Double(c.i)
	}
	return api.Packet{}, n.Move(c.i, c.to)
}

// plain is a net by the chapter's words: a list of packets that each call makes anew, and three numbers. Without nodes it is not there.
type plain struct {
	nodes                    int
	list                     []api.Packet
	sent, delivered, dropped int
}

func (p *plain) isPlace(i int) bool { return i >= 0 && i < len(p.list) }

func (p *plain) errorOf(c call) api.Errno {
	areNodes := c.i >= 0 && c.i < p.nodes && c.to >= 0 && c.to < p.nodes
	isFull := len(p.list) >= mostPackets
	switch {
	case p.nodes == 0:
		return 1
	case c.kind == send && !areNodes:
		return 2
	case c.kind != send && !p.isPlace(c.i):
		return 2
	case c.kind == move && !p.isPlace(c.to):
		return 2
	case (c.kind == send || c.kind == double) && isFull:
		return 4
	case c.kind == send && len(c.b) > mostBytes:
		return 4
	}
	return 0
}

func (p *plain) done(c call) (told api.Packet, e api.Errno) {
	if e := p.errorOf(c); e != 0 {
		return api.Packet{}, e
	}
	if c.kind == send {
		p.list = slices.Concat(p.list, []api.Packet{pk(c.i, c.to, slices.Clone(c.b)...)})
		p.sent++
		return api.Packet{}, 0
	}
	at := p.list[c.i]
	others := slices.Concat(p.list[:c.i], p.list[c.i+1:])
	switch c.kind {
	case deliver:
		p.list, told = others, at
		p.delivered++
	case drop:
		p.list = others
		p.dropped++
	case double:
		p.list = slices.Concat(p.list, []api.Packet{at})
		p.sent++
	case move:
		p.list = slices.Insert(others, c.to, at)
	}
	return told, 0
}

// pair is a net, and what the words make of it.
type pair struct {
	n  *Net
	by plain
}

func pairOf(t *testing.T, nodes int) *pair {
	t.Helper()
	n, e := New(nodes)
	if n == nil || e != 0 {
		t.Fatalf("New(%d) = %v, %d", nodes, n, e)
	}
	return &pair{n, plain{nodes: nodes}}
}

// stands has the net tell what is under way, and its numbers, as the words do.
func (p *pair) stands(t *testing.T, behind string) {
	t.Helper()
	if got := p.n.Pending(); !slices.EqualFunc(got, p.by.list, same) {
		t.Errorf("behind %s: Pending() = %s, not %s", behind, briefly(got), briefly(p.by.list))
	}
	sent, delivered, dropped := p.n.Count()
	if sent != p.by.sent || delivered != p.by.delivered || dropped != p.by.dropped {
		t.Errorf("behind %s: Count() = %d, %d, %d, not %d, %d, %d", behind, sent, delivered, dropped, p.by.sent, p.by.delivered, p.by.dropped)
	}
}

// do has a call answer and leave behind what the words make of it.
func (p *pair) do(t *testing.T, c call) {
	t.Helper()
	told, e := done(p.n, c)
	toldBy, by := p.by.done(c)
	if !same(told, toldBy) || e != by {
		t.Errorf("%s = %s, %d, not %s, %d", c, briefly([]api.Packet{told}), e, briefly([]api.Packet{toldBy}), by)
	}
	p.stands(t, c.String())
}

// copied is a copy of both.
func (p *pair) copied() *pair {
	by := p.by
	by.list = slices.Clone(by.list)
	return &pair{p.n.Copy(), by}
}

// filled has so many packets under way, unlike ones, between all nodes in turn.
func filled(t *testing.T, nodes, many int) *pair {
	t.Helper()
	p := pairOf(t, nodes)
	for i := range many {
		c := call{send, i % nodes, i / nodes % nodes, fmt.Append(nil, i)}
		if _, e := done(p.n, c); e != 0 {
			t.Fatalf("%s: %d", c, e)
		}
		p.by.done(c)
	}
	p.stands(t, fmt.Sprintf("%d packets", many))
	return p
}

func wantError(t *testing.T, what string, e, want api.Errno) {
	t.Helper()
	if e != want {
		t.Errorf("%s: %d, not %d", what, e, want)
	}
}

func wantPending(t *testing.T, n *Net, want ...api.Packet) {
	t.Helper()
	if got := n.Pending(); !slices.EqualFunc(got, want, same) {
		t.Errorf("Pending() = %s, not %s", briefly(got), briefly(want))
	}
}

func wantCount(t *testing.T, n *Net, want ...int) {
	t.Helper()
	sent, delivered, dropped := n.Count()
	if got := []int{sent, delivered, dropped}; !slices.Equal(got, want) {
		t.Errorf("Count() = %v, not %v", got, want)
	}
}

// exampled is the n of the chapter's examples.
func exampled(t *testing.T) *Net {
	t.Helper()
	n, e := New(3)
	wantError(t, "New(3)", e, 0)
	wantError(t, "Send(0, 1, 5)", n.Send(0, 1, []byte{5}), 0)
	wantError(t, "Send(0, 2, 6)", n.Send(0, 2, []byte{6}), 0)
	return n
}

func TestExamples(t *testing.T) {
	n := exampled(t)
	p, e := n.Deliver(1)
	if !same(p, pk(0, 2, 6)) || e != 0 {
		t.Errorf("Deliver(1) = %v, %d", p, e)
	}
	p, e = n.Deliver(1)
	if !same(p, api.Packet{}) || e != 2 {
		t.Errorf("Deliver(1) again = %v, %d", p, e)
	}
	wantPending(t, n, pk(0, 1, 5))
	// In the second row as it goes on behind the first.
	wantError(t, "Double(0)", n.Double(0), 0)
	wantError(t, "Move(0, 1)", n.Move(0, 1), 0)
	wantCount(t, n, 3, 1, 0)
	wantError(t, "Drop(0)", n.Drop(0), 0)
	wantCount(t, n, 3, 1, 1)
	wantError(t, "Send(0, 3, none)", n.Send(0, 3, nil), 2)
	for _, nodes := range []int{0, 66} {
		if n, e := New(nodes); n != nil || e != 2 {
			t.Errorf("New(%d) = %v, %d", nodes, n, e)
		}
	}
}

func TestNew(t *testing.T) {
	for nodes := 1; nodes <= mostNodes; nodes++ {
		p := pairOf(t, nodes)
		p.stands(t, fmt.Sprintf("New(%d)", nodes))
		for i := -2; i <= nodes+2; i++ {
			p.do(t, call{send, i, nodes - 1, []byte{1}})
			p.do(t, call{send, 0, i, []byte{2}})
		}
		wantCount(t, p.n, 2*nodes, 0, 0)
	}
}

// No two nets have anything in common.
func TestNewNets(t *testing.T) {
	one, other := filled(t, 3, 4), pairOf(t, 2)
	for i := range 3 {
		other.do(t, call{send, 1, 0, []byte{byte(i)}})
		one.do(t, call{kind: deliver, i: 0})
		other.stands(t, "a call of another net")
	}
	one.stands(t, "calls of another net")
}

func TestSend(t *testing.T) {
	all := make([]byte, 256)
	for i := range all {
		all[i] = byte(i)
	}
	for _, nodes := range []int{1, 2, 3, mostNodes} {
		p := pairOf(t, nodes)
		for i, b := range [][]byte{nil, {}, {0}, {255}, {0, 0, 0}, []byte("ab"), all, slices.Repeat([]byte{200}, 5000)} {
			// From a node to itself, too.
			p.do(t, call{send, i % nodes, i % nodes, b})
			p.do(t, call{send, nodes - 1, i % nodes, b})
			p.do(t, call{send, i % nodes, nodes - 1, b})
		}
		for len(p.by.list) > 0 {
			p.do(t, call{kind: deliver, i: len(p.by.list) / 2})
		}
	}
}

// Where a packet is the same as another one, it is told from that by its place alone.
func TestPacketsThatAreTheSame(t *testing.T) {
	p := pairOf(t, 2)
	for range 3 {
		p.do(t, call{send, 0, 1, []byte{7, 7}})
	}
	p.do(t, call{send, 1, 0, []byte{7, 7}})
	p.do(t, call{send, 0, 1, []byte{7}})
	for _, c := range []call{{kind: drop, i: 1}, {kind: double, i: 2}, {kind: move, i: 4, to: 0}, {kind: deliver, i: 0}, {kind: deliver, i: 2}} {
		p.do(t, c)
	}
}

func TestEachPlace(t *testing.T) {
	for many := range 9 {
		for _, k := range []kind{deliver, drop, double} {
			for i := range many {
				p := filled(t, 3, many)
				p.do(t, call{kind: k, i: i})
				for range many + 1 {
					p.do(t, call{kind: deliver})
				}
			}
		}
	}
}

func TestEachMove(t *testing.T) {
	for many := range 9 {
		for i := range many {
			for to := range many {
				p := filled(t, 3, many)
				p.do(t, call{kind: move, i: i, to: to})
				if got, want := p.n.Pending()[to], filled(t, 3, many).by.list[i]; !same(got, want) {
					t.Errorf("Move(%d, %d) of %d: the place %d has %v", i, to, many, to, got)
				}
				wantCount(t, p.n, many, 0, 0)
			}
		}
	}
}

func TestMovesOneBehindTheOther(t *testing.T) {
	p := filled(t, 4, 6)
	for a := range 36 {
		for b := range 36 {
			p.do(t, call{kind: move, i: a / 6, to: a % 6})
			p.do(t, call{kind: move, i: b / 6, to: b % 6})
		}
	}
	wantCount(t, p.n, 6, 0, 0)
}

// A double of a double is a packet as any other, and each is delivered, or dropped, by itself.
func TestDoubles(t *testing.T) {
	p := filled(t, 3, 2)
	for i := range 5 {
		p.do(t, call{kind: double, i: i})
	}
	wantCount(t, p.n, 7, 0, 0)
	for i := range 7 {
		p.do(t, call{kind: []kind{deliver, drop}[i%2]})
	}
	wantCount(t, p.n, 7, 4, 3)
	p.do(t, call{kind: deliver})
}

func TestMostBytes(t *testing.T) {
	b := make([]byte, mostBytes+1)
	for i := range b {
		b[i] = byte(i ^ i>>8 ^ i>>16)
	}
	p := pairOf(t, mostNodes)
	for _, size := range []int{mostBytes - 1, mostBytes, mostBytes + 1} {
		p.do(t, call{send, 0, 64, b[:size]})
		p.do(t, call{send, 64, 64, b[mostBytes+1-size:]})
	}
	wantCount(t, p.n, 4, 0, 0)
	p.do(t, call{kind: double, i: 3})
	p.do(t, call{kind: move, i: 0, to: 4})
	for range 5 {
		p.do(t, call{kind: deliver})
	}
}

// The room behind bytes counts nothing.
func TestRoomBehindMostBytes(t *testing.T) {
	p := pairOf(t, 1)
	b := make([]byte, 2*mostBytes)
	p.do(t, call{send, 0, 0, b[:mostBytes]})
	p.do(t, call{send, 0, 0, b[:0]})
	wantCount(t, p.n, 2, 0, 0)
}

// A packet's bytes may be as many as there may be of them, and as many such packets under way.
func TestMostOfBoth(t *testing.T) {
	n, _ := New(2)
	b := slices.Repeat([]byte{1, 2}, mostBytes/2)
	n.Send(1, 0, b)
	for i := range mostPackets - 1 {
		if e := n.Double(i); e != 0 {
			t.Fatalf("Double(%d): %d", i, e)
		}
	}
	wantError(t, "Double of a full net", n.Double(0), 4)
	c := n.Copy()
	for i := range 20 {
		if p, e := n.Deliver(i * 200); !same(p, pk(1, 0, b...)) || e != 0 {
			t.Errorf("Deliver(%d): %s, %d", i*200, brief(p.Bytes), e)
		}
	}
	wantCount(t, n, mostPackets, 20, 0)
	wantCount(t, c, mostPackets, 0, 0)
}

func TestCopy(t *testing.T) {
	for _, nodes := range []int{1, 3, mostNodes} {
		for _, many := range []int{0, 1, 2, 7, mostPackets} {
			p := filled(t, nodes, many)
			for i := range min(many, 5) {
				p.do(t, call{kind: kinds[i], i: i % 2, to: i % 2, b: []byte{9}})
			}
			c := p.copied()
			c.stands(t, "Copy")
			p.stands(t, "Copy of it")
			if c.n == p.n {
				t.Error("a copy is what it was copied of")
			}
			// It has as many nodes, and no fewer packets than may be are under way.
			for _, c := range []call{{send, nodes - 1, 0, nil}, {send, nodes, 0, nil}, {send, 0, nodes, nil}, {kind: double}, {kind: deliver}, {kind: drop}} {
				p.copied().do(t, c)
				p.copied().copied().do(t, c)
			}
			p.stands(t, "calls of copies")
		}
	}
}
