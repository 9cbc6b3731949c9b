package wire

// P8.4: what follows.

import (
	"bytes"
	"slices"
	"testing"

	"conclave/api"
	"conclave/sample"
)

func TestWhatIsReadIsWhatWasWritten(t *testing.T) {
	for _, rest := range behind() {
		for n := 1; n > 0 && n < 1<<31; n = n*2 + n%3 {
			for _, count := range []int{0, n - 1, n, 1<<31 - n} {
				b, _ := Count(count)
				wantReadCount(t, slices.Concat(b, rest), count, len(b), api.OK)
			}
		}
		for _, f := range sample.Fields() {
			for _, list := range lists(f) {
				b, _ := List(f, list)
				wantReadList(t, slices.Concat(b, rest), f, list, len(b), api.OK)
			}
		}
		for _, b := range pieces() {
			piece, _ := Seal(b)
			wantUnseal(t, slices.Concat(piece, rest), b, len(piece), api.OK)
		}
	}
}

// wantAgain has what is read of b, if anything is, be written as the very bytes that were read.
func wantAgain(t *testing.T, b []byte) (read int) {
	t.Helper()
	tell := func(what string, again []byte, size int, e api.Errno) {
		t.Helper()
		read++
		if size > len(b) || !bytes.Equal(again, b[:size]) || e != api.OK {
			t.Errorf("%s: %.30x, of %d, read of %d bytes, is written as %.30x, of %d, %d", what, b, len(b), size, again, len(again), e)
		}
	}
	if n, size, e := ReadCount(b); e == api.OK {
		again, e := Count(n)
		tell("Count", again, size, e)
	}
	if f, list, size, e := ReadList(b); e == api.OK {
		again, e := List(f, list)
		tell("List", again, size, e)
	}
	if inner, size, e := Unseal(b); e == api.OK {
		again, e := Seal(inner)
		tell("Seal", again, size, e)
	}
	return read
}

func TestWhatIsReadIsWrittenAgain(t *testing.T) {
	read := 0
	for from := range 3000 {
		b := sample.Bytes(from, 5+from%40)
		// A beginning by which a list can be read of bytes that have no order.
		short := slices.Concat([]byte{byte(from % 4), 0, 0, 0, byte(from % 5)}, b)
		for i := 5; i < len(short); i += 4 {
			short[i] /= 2
		}
		read += wantAgain(t, b) + wantAgain(t, short) + wantAgain(t, sealBy(b)) + wantAgain(t, slices.Concat(sealBy(short), b))
	}
	if read < 6000 {
		t.Errorf("only %d were read", read)
	}
	for _, tail := range tails() {
		for _, count := range counts() {
			for _, first := range []byte{1, 2} {
				wantAgain(t, slices.Concat([]byte{first}, count, tail))
			}
		}
	}
}

// wantTurned has no piece be unsealed as b in which the byte at the place i is another one.
func wantTurned(t *testing.T, b, piece, rest []byte, i int) {
	t.Helper()
	turned := slices.Concat(piece, rest)
	for c := 1; c < 256; c++ {
		turned[i] = piece[i] ^ byte(c)
		inner, size, e := Unseal(turned)
		if e == api.OK && bytes.Equal(inner, b) {
			t.Errorf("%.30x, of %d, is unsealed as what it was, the byte %d being %d and not %d", piece, len(piece), i, turned[i], piece[i])
		}
		if e != api.OK && (len(inner) != 0 || size != 0) {
			t.Errorf("%.30x: something beside the error %d", turned, e)
		}
		// A byte within, or of the sum, leaves the piece as long as it was.
		if i >= 4 && e != api.ErrSum {
			t.Errorf("%.30x, of %d, the byte %d being %d and not %d: %d", piece, len(piece), i, turned[i], piece[i], e)
		}
	}
}

func TestAPieceWithAnotherByte(t *testing.T) {
	for _, b := range pieces()[:16] {
		piece, _ := Seal(b)
		for i := range piece {
			for _, rest := range [][]byte{nil, {0}, sample.Bytes(9, 300)} {
				wantTurned(t, b, piece, rest, i)
			}
		}
	}
}

func TestALongPieceWithAnotherByte(t *testing.T) {
	b := sample.Bytes(6, 5000)
	piece, _ := Seal(b)
	for _, i := range []int{0, 1, 2, 3, 4, 5, 100, 2500, 5002, 5003, 5004, 5011} {
		wantTurned(t, b, piece, sample.Bytes(3, 70000), i)
	}
	most, _ := Seal(make([]byte, 1<<20))
	for _, i := range []int{0, 1, 2, 3, 4, 1<<20 + 3, 1<<20 + 4, 1<<20 + 11} {
		turned := slices.Clone(most)
		turned[i] ^= 16
		if inner, _, e := Unseal(turned); e == api.OK || len(inner) != 0 {
			t.Errorf("a piece of %d bytes is unsealed, though its byte %d is another one", len(turned), i)
		}
	}
}

// With another count there may stand a piece too, if the bytes within are chosen for it: but not what it was.
func TestAPieceWithAnotherCount(t *testing.T) {
	b := append([]byte{1, 2, 3}, sealBy([]byte{1, 2, 3})[7:]...)
	piece, _ := Seal(b)
	wantUnseal(t, piece, b, 23, api.OK)
	piece[3] = 3
	wantUnseal(t, piece, []byte{1, 2, 3}, 15, api.OK)
}
