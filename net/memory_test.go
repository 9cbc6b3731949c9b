package net

// Rule 5: what is handed in stays as it is, what is answered is shared with nothing, and copies go their own ways.

import (
	"fmt"
	"slices"
	"testing"

	"conclave/api"
	"conclave/sample"
)

// lengths are numbers of bytes, also those at which memory is handed out in other sizes.
var lengths = []int{0, 1, 2, 7, 8, 31, 32, 33, 100, 1024, 5000}

// numbered are so many bytes, unlike each other where they may be.
func numbered(from, many int) []byte {
	b := make([]byte, many)
	for i := range b {
		b[i] = byte(from + i)
	}
	return b
}

// scribbled writes something else over packets and their bytes, the room behind them too.
func scribbled(l []api.Packet) {
	for _, p := range l {
		sample.Scribble(p.Bytes)
	}
	for i := range l[:cap(l)] {
		l[:cap(l)][i] = pk(77, 78, 79)
	}
}

func bytesIn(l []api.Packet) [][]byte {
	var all [][]byte
	for _, p := range l {
		all = append(all, p.Bytes)
	}
	return all
}

func TestMemoryOfBytes(t *testing.T) {
	for _, one := range lengths {
		for _, other := range lengths {
			do := func(h [][]byte) [][]byte {
				n, _ := New(2)
				n.Send(0, 1, h[0])
				n.Send(1, 0, h[1])
				n.Double(0)
				n.Move(0, 2)
				c := n.Copy()
				answers := slices.Concat(bytesIn(n.Pending()), bytesIn(n.Pending()), bytesIn(c.Pending()))
				for range 3 {
					a, _ := n.Deliver(0)
					b, _ := c.Deliver(0)
					answers = append(answers, a.Bytes, b.Bytes)
				}
				return answers
			}
			if wrong := sample.Apart(do, numbered(1, one), numbered(9, other)); wrong != "" {
				t.Errorf("%d and %d bytes: %s", one, other, wrong)
			}
		}
	}
}

func TestMemoryOfBytesThatAreRefused(t *testing.T) {
	full := filled(t, 2, mostPackets).n
	more := make([]byte, mostBytes+1)
	few, _ := New(2)
	for _, handed := range [][]byte{nil, numbered(3, 5), more} {
		do := func(h [][]byte) [][]byte {
			full.Send(0, 1, h[0])
			few.Send(0, 2, h[0])
			(*Net)(nil).Send(0, 0, h[0])
			few.Send(0, 0, more)
			return nil
		}
		if wrong := sample.Apart(do, handed); wrong != "" {
			t.Errorf("%s: %s", brief(handed), wrong)
		}
	}
}

// What a caller writes over in bytes that it handed in is not seen by the net, nor by a double, nor by a copy.
func TestBytesHandedIn(t *testing.T) {
	for _, many := range lengths {
		p := pairOf(t, 2)
		whole := numbered(5, 2*many+1)
		b := whole[:many]
		p.do(t, call{send, 0, 1, b})
		p.do(t, call{kind: double})
		c := p.copied()
		sample.Scribble(whole)
		p.stands(t, "writing over what was sent")
		c.stands(t, "writing over what was sent ahead of Copy")
		p.do(t, call{send, 1, 0, b})
		sample.Scribble(whole)
		p.do(t, call{kind: double, i: 2})
		p.do(t, call{kind: deliver, i: 3})
		p.do(t, call{kind: deliver})
		p.stands(t, "writing over what was sent again")
	}
}

// What a caller writes over in what it was told is not seen by the net, nor by a double of that packet, nor by a copy, nor by what was told ahead.
func TestBytesAnswered(t *testing.T) {
	for _, many := range lengths {
		p := pairOf(t, 2)
		p.do(t, call{send, 0, 1, numbered(5, many)})
		p.do(t, call{send, 1, 0, numbered(6, many)})
		p.do(t, call{kind: double, i: 0})
		p.do(t, call{kind: double, i: 2})
		c := p.copied()
		want := slices.Clone(p.by.list)
		before := p.n.Pending()
		scribbled(p.n.Pending())
		scribbled(c.n.Pending())
		p.stands(t, "writing over what Pending told")
		c.stands(t, "writing over what Pending told")
		for len(p.by.list) > 0 {
			told, _ := p.n.Deliver(0)
			p.by.done(call{kind: deliver})
			sample.Scribble(told.Bytes)
			p.stands(t, "writing over what Deliver told")
			c.stands(t, "writing over what Deliver told")
		}
		if !slices.EqualFunc(before, want, same) {
			t.Errorf("what was told ahead is %s", briefly(before))
		}
	}
}

// What stands behind the end of what was told is no packet's.
func TestMoreBehindBytesAnswered(t *testing.T) {
	p := filled(t, 2, 5)
	l := p.n.Pending()
	l = append(l[:2], pk(9, 9, 9))
	for i := range l {
		l[i].Bytes = append(l[i].Bytes, 1, 2, 3)
	}
	p.stands(t, "putting more behind what Pending told")
	told, _ := p.n.Deliver(1)
	p.by.done(call{kind: deliver, i: 1})
	_ = append(told.Bytes[:0], 1, 2, 3, 4, 5, 6, 7, 8)
	p.stands(t, "putting more behind what Deliver told")
}

// A copy and what it was copied of go their own ways, whichever of them goes first.
func TestCopiesGoTheirOwnWays(t *testing.T) {
	for _, many := range []int{0, 1, 2, 3, 4, 5, 8, 9, 16, 17} {
		for _, left := range []int{0, 1, 3} {
			for _, k := range kinds {
				for _, other := range kinds {
					p := filled(t, 2, many)
					// What has left has made room within the net's memory.
					for range left {
						p.do(t, call{kind: drop, i: 0})
					}
					c := p.copied()
					last := max(0, len(p.by.list)-1)
					for i := range 3 {
						p.do(t, call{k, 0, last % 2, []byte{1, byte(i)}})
						c.stands(t, "a call of what it was copied of")
						c.do(t, call{other, last % 2, 0, []byte{2, byte(i)}})
						p.stands(t, "a call of its copy")
					}
				}
			}
		}
	}
}

func TestCopiesOfCopies(t *testing.T) {
	p := filled(t, 3, 6)
	all := []*pair{p}
	for i, k := range slices.Concat(kinds, kinds) {
		p = p.copied()
		p.do(t, call{k, i % 2, 2 - i%3, []byte{byte(i)}})
		all = append(all, p)
	}
	for _, p := range all {
		p.stands(t, "calls of copies")
	}
}

// Nets, copies of one among them, are used at once, and hang on themselves alone.
func TestNetsAtOnce(t *testing.T) {
	done := make(chan bool)
	p := filled(t, 3, 20)
	for from := range 4 {
		own, copied := filled(t, 3, 10), p.copied()
		go func() {
			defer func() { done <- true }()
			for i, a := range sample.Scattered(api.Large, 400+from)[from:] {
				own.do(t, own.steered(a))
				copied.do(t, call{kinds[i%5], i % 3, 1, fmt.Append(nil, from, i)})
			}
		}()
	}
	for range 4 {
		<-done
	}
	p.stands(t, "calls of its copies")
}
