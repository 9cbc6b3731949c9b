package codec

// P20.1 and P20.2: the errors, which of them comes first, and that nothing stands beside them.

import (
	"encoding/binary"
	"math"
	"slices"
	"testing"

	"conclave/api"
	"conclave/sample"
)

// some are messages whose bytes are few enough to be turned one by one, and one with the most values.
func some() []api.Msg {
	all := []api.Msg{{Kind: api.MShare, Round: 65535, Worker: 63, Field: api.Large, Values: sample.Run(api.Large, 8, 64)}}
	for _, f := range sample.Fields() {
		top := sample.Prime(f) - 1
		for i, values := range [][]uint64{nil, l(0), l(5), l(top), l(1, 2), l(top, 0, top), sample.Run(f, 1, 9)} {
			all = append(all, api.Msg{Kind: sample.Kinds()[i%2], Round: i * 9000, Worker: i * 10, Field: f, Values: values})
		}
	}
	return all
}

// wantError has bytes be read as none of a message's, as the reader by words tells, too.
func wantError(t *testing.T, b []byte, e api.Errno) {
	t.Helper()
	if by := readBy(b); by.e != e {
		t.Errorf("%.60x, %d bytes: the error expected is %d, by words %d", b, len(b), e, by.e)
	}
	wantRead(t, b, answer{e: e})
}

// wantAsBy has bytes be read as the reader by words tells, also sealed once more.
func wantAsBy(t *testing.T, b []byte) {
	t.Helper()
	wantRead(t, b, readBy(b))
	wantRead(t, sealBy(b), readBy(sealBy(b)))
}

func TestCutPieces(t *testing.T) {
	for _, m := range some() {
		b := bytesBy(m)
		for n := range b {
			wantError(t, b[:n], api.ErrShort)
			wantError(t, slices.Clone(b[:n]), api.ErrShort)
		}
		for n := range b {
			// Without its beginning, what stands there as a count is another one.
			wantRead(t, b[n:], readBy(b[n:]))
		}
	}
	wantError(t, nil, api.ErrShort)
	wantError(t, []byte{}, api.ErrShort)
}

func TestSomethingBehindThePiece(t *testing.T) {
	for _, m := range some() {
		b := bytesBy(m)
		for _, rest := range [][]byte{{0}, {255}, {0, 0, 0, 0}, make([]byte, 8), sealBy(nil), b, bytesBy(msg(api.Small)), sample.Bytes(3, 100)} {
			wantError(t, slices.Concat(b, rest), api.ErrForm)
			// A sum that is another one comes first.
			wrong := slices.Concat(b, rest)
			wrong[len(b)-1] ^= 1
			wantError(t, wrong, api.ErrSum)
		}
		// What stands behind the piece is behind it, and no part of the message.
		inner := innerBy(m)
		for n := range inner {
			wantError(t, slices.Concat(sealBy(inner[:n]), inner[n:]), api.ErrForm)
		}
	}
}

func TestTurnedBytes(t *testing.T) {
	for _, m := range some() {
		b := bytesBy(m)
		for i := range b {
			for c := 1; c < 256; c++ {
				wrong := slices.Clone(b)
				wrong[i] ^= byte(c)
				wantRead(t, wrong, readBy(wrong))
				if _, e := Read(wrong); i >= 4 && e != api.ErrSum {
					t.Errorf("%.60x, the byte %d turned: %d", b, i, e)
				}
			}
		}
	}
}

// The sum is right there, and each byte within another one: such bytes are another message's, or none's.
func TestTurnedBytesSealed(t *testing.T) {
	for _, m := range some() {
		inner := innerBy(m)
		read := 0
		for i := range inner {
			for c := 1; c < 256; c++ {
				wrong := slices.Clone(inner)
				wrong[i] ^= byte(c)
				b := sealBy(wrong)
				got := readBy(b)
				wantRead(t, b, got)
				if got.e == api.OK {
					read++
					if Same(got.m, m) {
						t.Errorf("%.60x is read as what it was, the byte %d turned", wrong, i)
					}
				} else if got.e != api.ErrForm {
					t.Errorf("%.60x: %d", wrong, got.e)
				}
			}
		}
		if read < 200 {
			t.Errorf("%s: only %d were read", brief(m), read)
		}
	}
}

func TestCutInsides(t *testing.T) {
	for _, m := range some() {
		inner := innerBy(m)
		for n := range inner {
			wantError(t, sealBy(inner[:n]), api.ErrForm)
			wantError(t, sealBy(inner[n+1:]), api.ErrForm)
			// One byte less, anywhere within.
			short := slices.Delete(slices.Clone(inner), n, n+1)
			wantRead(t, sealBy(short), readBy(sealBy(short)))
		}
		for _, rest := range [][]byte{{0}, {255}, {0, 0, 0, 0}, make([]byte, 8), inner, sealBy(inner), sample.Bytes(2, 50)} {
			wantError(t, sealBy(slices.Concat(inner, rest)), api.ErrForm)
		}
	}
}

// sealed is a message's piece with other bytes from one place of its inside on.
func sealed(m api.Msg, at int, other ...byte) []byte {
	inner := innerBy(m)
	copy(inner[at:], other)
	return sealBy(inner)
}

// The places of the numbers within what is sealed.
const (
	atKind   = 0
	atRound  = 1
	atWorker = 5
	atField  = 9
	atMany   = 10
	atValues = 14
)

func count(n uint32) []byte { return binary.BigEndian.AppendUint32(nil, n) }

func TestSealedKindsAndFields(t *testing.T) {
	for _, m := range some() {
		for n := range 256 {
			kind := sealed(m, atKind, byte(n))
			if n == 1 || n == 2 {
				wantRead(t, kind, answer{turned(m, func(m *api.Msg) { m.Kind = api.MsgKind(n) }), api.OK})
			} else {
				wantError(t, kind, api.ErrForm)
			}
			field := sealed(m, atField, byte(n))
			if n == int(m.Field) {
				wantRead(t, field, answer{m, api.OK})
			} else if len(m.Values) > 0 || n < 1 || n > 2 {
				// The other field's elements have another number of bytes.
				wantError(t, field, api.ErrForm)
			} else {
				wantRead(t, field, answer{turned(m, func(m *api.Msg) { m.Field = api.Field(n) }), api.OK})
			}
		}
	}
}

func TestSealedRoundsAndWorkers(t *testing.T) {
	m := msg(api.Small, 5)
	for _, n := range []uint32{0, 1, 2, 62, 63, 255, 256, 65534, 65535} {
		wantRead(t, sealed(m, atRound, count(n)...), answer{turned(m, func(m *api.Msg) { m.Round = int(n) }), api.OK})
	}
	for n := range uint32(64) {
		wantRead(t, sealed(m, atWorker, count(n)...), answer{turned(m, func(m *api.Msg) { m.Worker = int(n) }), api.OK})
	}
	// Past the most, and such as have no form.
	past := []uint32{1 << 20, 1<<24 + 1, 1<<31 - 1, 1 << 31, 1<<31 + 1, 1<<31 + 5, 1<<32 - 1}
	for _, n := range append(past, 65536, 65537, 65536+258, 1<<17) {
		wantError(t, sealed(m, atRound, count(n)...), api.ErrForm)
	}
	for _, n := range append(past, 64, 65, 127, 128, 255, 256, 256+5, 65535, 65536, 65541) {
		wantError(t, sealed(m, atWorker, count(n)...), api.ErrForm)
	}
}

// A number of values that is more or less than there are, or more than there may be, be they there or not.
func TestSealedNumbersOfValues(t *testing.T) {
	for _, m := range some() {
		for _, n := range []uint32{0, 1, 2, 3, 4, 9, 18, 32, 63, 64, 65, 128, 4095, 4096, 4097, 1 << 16, 1 << 20, 1 << 24, 1 << 28, 1<<29 + 1, 1<<31 - 1, 1 << 31, 1<<31 + 1, 1<<32 - 1} {
			if int(n) == len(m.Values) {
				wantRead(t, sealed(m, atMany, count(n)...), answer{m, api.OK})
			} else {
				wantError(t, sealed(m, atMany, count(n)...), api.ErrForm)
			}
		}
	}
	for _, f := range sample.Fields() {
		for _, n := range []int{65, 66, 128, 4095, 4096, 4097, 5000, 100000} {
			wantError(t, bytesBy(msg(f, make([]uint64, n)...)), api.ErrForm)
			wantError(t, bytesBy(msg(f, append(make([]uint64, n), math.MaxUint64)...)), api.ErrForm)
		}
	}
}

func TestSealedValues(t *testing.T) {
	for _, f := range sample.Fields() {
		size := map[api.Field]int{api.Small: 4, api.Large: 8}[f]
		outside := []uint64{sample.Prime(f), sample.Prime(f) + 1, 1<<(8*size) - 1}
		for _, n := range []int{1, 2, 5, 63, 64} {
			m := msg(f, sample.Run(f, 4, n)...)
			for at := range n {
				for _, a := range append(sample.Edges(f), outside...) {
					b := binary.BigEndian.AppendUint64(nil, a)[8-size:]
					got := sealed(m, atValues+at*size, b...)
					if a < sample.Prime(f) {
						wantRead(t, got, answer{turned(m, func(m *api.Msg) { m.Values[at] = a }), api.OK})
					} else {
						wantError(t, got, api.ErrForm)
					}
				}
			}
		}
	}
}

// Messages that may not be, as far as their numbers have bytes.
func TestSealedMessagesThatMayNotBe(t *testing.T) {
	for _, m := range sample.NoMsgs() {
		b := bytesBy(m)
		if m.Round == int(uint32(m.Round)) && m.Worker == int(uint32(m.Worker)) {
			wantError(t, b, api.ErrForm)
		} else {
			wantRead(t, b, readBy(b))
		}
	}
}

// Which error of a piece comes first: that of its count, then its limit, then its end, then its sum.
func TestUnsealFaulty(t *testing.T) {
	good := bytesBy(msg(api.Small, 5))
	for _, n := range []uint32{0, 1, 18, 29, 30, 1<<20 - 1, 1 << 20, 1<<20 + 1, 1<<24 + 18, 1<<31 - 1, 1 << 31, 1<<31 + 18, 1<<32 - 1} {
		for _, rest := range [][]byte{nil, {0}, good[4:29], good[4:], slices.Concat(good[4:], []byte{0}), make([]byte, 1<<20+7), make([]byte, 1<<20+8), make([]byte, 1<<20+9)} {
			b := slices.Concat(count(n), rest)
			wantAsBy(t, b)
			for n := range 5 {
				wantAsBy(t, b[:n])
			}
			switch {
			case n >= 1<<31:
				wantError(t, b, api.ErrForm)
			case n > 1<<20:
				wantError(t, b, api.ErrLimit)
			case len(rest) < int(n)+8:
				wantError(t, b, api.ErrShort)
			}
		}
	}
	wantError(t, []byte{128}, api.ErrShort)
	wantError(t, []byte{128, 0, 0, 0}, api.ErrForm)
	wantError(t, []byte{0, 16, 0, 1}, api.ErrLimit)
	wantError(t, []byte{0, 16, 0, 0}, api.ErrShort)
}

func TestGreatPieces(t *testing.T) {
	for _, n := range []int{1<<20 - 1, 1 << 20} {
		for _, first := range []byte{0, 1, 2} {
			inner := make([]byte, n)
			inner[0] = first
			wantError(t, sealBy(inner), api.ErrForm)
			wantError(t, append(sealBy(inner), 0), api.ErrForm)
		}
	}
	wantError(t, sealBy(make([]byte, 1<<20+1)), api.ErrLimit)
	// As many elements as a form has at most, and more than a form has.
	for _, f := range sample.Fields() {
		for _, n := range []int{4096, 4097} {
			wantError(t, bytesBy(msg(f, sample.Run(f, 2, n)...)), api.ErrForm)
		}
	}
}

// A piece in a piece, and two of them, are none of a message.
func TestPiecesOfPieces(t *testing.T) {
	for _, m := range some() {
		b := bytesBy(m)
		wantError(t, sealBy(b), api.ErrForm)
		wantError(t, slices.Concat(b, b), api.ErrForm)
		wantError(t, sealBy(slices.Concat(b, b)), api.ErrForm)
		wantError(t, slices.Concat(sealBy(nil), b), api.ErrForm)
		wantError(t, slices.Concat([]byte{0}, b), readBy(slices.Concat([]byte{0}, b)).e)
	}
}

// Short insides of all kinds: each of one byte, of two, and such as have no order.
func TestShortInsides(t *testing.T) {
	wantError(t, sealBy(nil), api.ErrForm)
	for n := range 1 << 16 {
		wantError(t, sealBy([]byte{byte(n)}), api.ErrForm)
		wantError(t, sealBy([]byte{byte(n >> 8), byte(n)}), api.ErrForm)
	}
	for n := range 14 {
		for from := range 50 {
			wantError(t, sealBy(sample.Bytes(from, n)), api.ErrForm)
			wantError(t, sealBy(make([]byte, n)), api.ErrForm)
		}
	}
}

// The insides of messages crossed: kinds, rounds, workers, fields, numbers of values, values, and what stands behind, right and wrong.
func TestManyFaulty(t *testing.T) {
	tails := [][]byte{nil, {0}, make([]byte, 3), make([]byte, 4), make([]byte, 8), make([]byte, 260), make([]byte, 512), make([]byte, 520), sample.Bytes(1, 16), slices.Repeat([]byte{255}, 8), hexed("78000000"), hexed("78000001"), hexed("ffffffff00000000"), hexed("ffffffff00000001")}
	read := 0
	for _, kind := range []byte{0, 1, 2, 3, 255} {
		for _, round := range []uint32{0, 65535, 65536, 1 << 31} {
			for _, worker := range []uint32{0, 63, 64, 1<<32 - 1} {
				for _, field := range []byte{0, 1, 2, 3} {
					for _, many := range []uint32{0, 1, 2, 64, 65, 4097, 1 << 31} {
						for _, tail := range tails {
							inner := slices.Concat([]byte{kind}, count(round), count(worker), []byte{field}, count(many), tail)
							b := sealBy(inner)
							by := readBy(b)
							if by.e == api.OK {
								read++
							}
							wantRead(t, b, by)
							// The piece's own errors come first, also where all within is wrong, then what stands behind it.
							wantRead(t, append(slices.Clone(b), 7), answer{e: api.ErrForm})
							wantRead(t, b[:len(b)-1], answer{e: api.ErrShort})
							b[len(b)-3] ^= 64
							wantRead(t, b, answer{e: api.ErrSum})
							wantRead(t, append(b, 7), answer{e: api.ErrSum})
						}
					}
				}
			}
		}
	}
	if read < 60 {
		t.Errorf("only %d were read", read)
	}
}

// Several faults at once in a message are one error, and two messages that may not be may be the same.
func TestWriteManyFaulty(t *testing.T) {
	for _, kind := range []api.MsgKind{0, 1, 2, 3} {
		for _, round := range []int{math.MinInt, -1, 0, 65535, 65536, math.MaxInt} {
			for _, worker := range []int{math.MinInt, -1, 0, 63, 64, math.MaxInt} {
				for _, f := range []api.Field{0, 1, 2, 3} {
					for _, values := range [][]uint64{nil, l(0), l(2013265920), l(2013265921), l(18446744069414584320), l(18446744069414584321), l(math.MaxUint64), make([]uint64, 64), make([]uint64, 65), make([]uint64, 4097)} {
						m := api.Msg{Kind: kind, Round: round, Worker: worker, Field: f, Values: values}
						wantBy(t, m)
						wantSame(t, m, turned(m, func(*api.Msg) {}), true)
					}
				}
			}
		}
	}
	wantNone(t, api.Msg{})
}
