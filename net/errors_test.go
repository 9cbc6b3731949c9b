package net

// The errors, which of them comes first, and that a call which answers one changes nothing.

import (
	"fmt"
	"math"
	"slices"
	"testing"

	"conclave/api"
	"conclave/sample"
)

// near are the numbers next to the first and the last one of so many, and as far from them as an int can be.
func near(many int) []int {
	return []int{math.MinInt, math.MinInt + 1, -1 << 32, -many, -2, -1, 0, 1, many - 2, many - 1, many, many + 1, 2 * many, 255, 256, mostPackets - 1, mostPackets, mostPackets + 1, 1 << 31, 1 << 32, 1<<32 + 1, math.MaxInt - 1, math.MaxInt}
}

func TestNoSuchNumberOfNodes(t *testing.T) {
	for _, nodes := range append(sample.NotBelow(mostNodes+1), 0, 67, 128, 256, 257, 1<<16+1) {
		if n, e := New(nodes); n != nil || e != 2 {
			t.Errorf("New(%d) = %v, %d", nodes, n, e)
		}
	}
}

func TestNoSuchNode(t *testing.T) {
	for _, nodes := range []int{1, 2, 3, 64, mostNodes} {
		p := filled(t, nodes, 3)
		sent := 3
		for _, from := range near(nodes) {
			for _, to := range near(nodes) {
				if from >= 0 && from < nodes && to >= 0 && to < nodes {
					sent++
				}
				p.do(t, call{send, from, to, []byte{1, 2}})
			}
		}
		wantCount(t, p.n, sent, 0, 0)
	}
}

func TestNoSuchPlace(t *testing.T) {
	for _, many := range []int{0, 1, 2, 5, 70} {
		for _, k := range []kind{deliver, drop, double} {
			p := filled(t, 2, many)
			for _, i := range near(many) {
				// A copy, so that each is tried with so many packets.
				p.copied().do(t, call{kind: k, i: i})
				if i < 0 || i >= many {
					p.do(t, call{kind: k, i: i})
				}
			}
			wantCount(t, p.n, many, 0, 0)
		}
		p := filled(t, 2, many)
		for _, i := range near(many) {
			for _, to := range near(many) {
				p.do(t, call{kind: move, i: i, to: to})
			}
		}
		wantCount(t, p.n, many, 0, 0)
	}
}

// Where packets were under way, and are not any more, there is no place.
func TestNoPlaceAnyMore(t *testing.T) {
	for _, k := range []kind{deliver, drop} {
		p := filled(t, 2, 4)
		for left := 3; left >= 0; left-- {
			p.do(t, call{kind: k, i: left / 2})
			for _, c := range kinds[1:] {
				p.do(t, call{kind: c, i: left})
				p.do(t, call{kind: c, i: left + 1})
			}
			p.do(t, call{kind: move, i: 0, to: left})
			p.do(t, call{kind: move, i: left, to: 0})
		}
	}
}

func TestMostPackets(t *testing.T) {
	for _, c := range []call{{send, 0, 1, nil}, {send, 1, 0, []byte{4}}, {kind: double}, {kind: double, i: mostPackets - 2}} {
		p := filled(t, 2, mostPackets-1)
		p.do(t, c)
		wantCount(t, p.n, mostPackets, 0, 0)
		for range 2 {
			p.do(t, call{send, 0, 1, nil})
			p.do(t, call{send, 1, 1, []byte{3}})
			p.do(t, call{kind: double})
			p.do(t, call{kind: double, i: mostPackets - 1})
		}
		wantCount(t, p.n, mostPackets, 0, 0)
		// They are moved all the same.
		p.do(t, call{kind: move, i: mostPackets - 1})
		p.do(t, call{kind: move, i: 1, to: mostPackets - 1})
		// There is room for just as many more as have left.
		p.do(t, call{kind: deliver, i: 9})
		p.do(t, call{kind: drop, i: mostPackets - 2})
		for range 2 {
			p.do(t, call{kind: double, i: 5})
			p.do(t, c)
		}
		wantCount(t, p.n, mostPackets+2, 1, 1)
	}
}

// What was sent is no limit, but what is under way.
func TestMoreThanMostPacketsInAll(t *testing.T) {
	p := filled(t, 3, 5)
	for i := range 2 * mostPackets {
		p.do(t, call{send, i % 3, 1, []byte{byte(i)}})
		p.do(t, call{kind: []kind{deliver, drop}[i%2], i: i % 6})
	}
	wantCount(t, p.n, 5+2*mostPackets, mostPackets, mostPackets)
}

func TestWhichErrorComesFirst(t *testing.T) {
	more := make([]byte, mostBytes+1)
	for _, p := range []*pair{{nil, plain{}}, {&Net{}, plain{}}, filled(t, 2, 0), filled(t, 2, 1), filled(t, 2, mostPackets)} {
		for _, k := range kinds {
			for _, i := range []int{-1, 0, 1, 2, mostPackets - 1, mostPackets} {
				for _, to := range []int{-1, 0, 1, 2, mostPackets - 1, mostPackets} {
					for _, b := range [][]byte{nil, {5}, more} {
						if p.n == nil || p.by.errorOf(call{k, i, to, b}) != 0 {
							p.do(t, call{k, i, to, b})
						}
					}
				}
			}
		}
	}
}

// So that the words' own answers are tried: each error alone, and all that may come together.
func TestErrorsByHand(t *testing.T) {
	more := make([]byte, mostBytes+1)
	one, full := filled(t, 2, 1).n, filled(t, 2, mostPackets).n
	for _, c := range []struct {
		n    *Net
		c    call
		want api.Errno
	}{
		{nil, call{send, 9, 0, more}, api.ErrNil},
		{nil, call{kind: deliver}, api.ErrNil},
		{nil, call{kind: drop, i: -1}, api.ErrNil},
		{nil, call{kind: double, i: 5}, api.ErrNil},
		{nil, call{kind: move, i: 5, to: -1}, api.ErrNil},
		{&Net{}, call{send, 0, 0, nil}, api.ErrNil},
		{&Net{}, call{kind: double}, api.ErrNil},
		{one, call{send, 2, 0, more}, api.ErrArg},
		{one, call{send, 0, 2, more}, api.ErrArg},
		{one, call{send, -1, 0, nil}, api.ErrArg},
		{one, call{send, 0, 0, more}, api.ErrLimit},
		{one, call{kind: deliver, i: 1}, api.ErrArg},
		{one, call{kind: drop, i: -1}, api.ErrArg},
		{one, call{kind: double, i: 1}, api.ErrArg},
		{one, call{kind: move, i: 1, to: 0}, api.ErrArg},
		{one, call{kind: move, i: 0, to: 1}, api.ErrArg},
		{one, call{kind: move, i: 0, to: -1}, api.ErrArg},
		{one, call{kind: move, i: 0, to: 0}, api.OK},
		{full, call{send, 2, 0, nil}, api.ErrArg},
		{full, call{send, 0, 1, nil}, api.ErrLimit},
		{full, call{send, 0, 1, more}, api.ErrLimit},
		{full, call{kind: double, i: mostPackets}, api.ErrArg},
		{full, call{kind: double, i: -1}, api.ErrArg},
		{full, call{kind: double, i: mostPackets - 1}, api.ErrLimit},
	} {
		before := c.n.Pending()
		told, e := done(c.n, c.c)
		wantError(t, c.c.String(), e, c.want)
		if !same(told, api.Packet{}) || !slices.EqualFunc(c.n.Pending(), before, same) {
			t.Errorf("%s tells %v, and leaves %s", c.c, told, briefly(c.n.Pending()))
		}
	}
	wantCount(t, one, 1, 0, 0)
	wantCount(t, full, mostPackets, 0, 0)
}

func TestNotThere(t *testing.T) {
	for _, n := range []*Net{nil, {}, new(Net)} {
		what := fmt.Sprintf("of a net that is not there (nil: %v)", n == nil)
		for _, k := range kinds {
			for _, i := range near(1) {
				for _, b := range [][]byte{nil, {1}} {
					if told, e := done(n, call{k, i, i, b}); !same(told, api.Packet{}) || e != 1 {
						t.Errorf("%s %s: %v, %d", call{k, i, i, b}, what, told, e)
					}
				}
			}
		}
		if l := n.Pending(); len(l) != 0 {
			t.Errorf("Pending() %s: %s", what, briefly(l))
		}
		wantCount(t, n, 0, 0, 0)
		if c := n.Copy(); c != nil {
			t.Errorf("Copy() %s: %v", what, c)
		}
	}
}
