package codec

// P20.1 and P20.2: what each call answers, and the chapter's examples.

import (
	"bytes"
	"encoding/binary"
	"encoding/hex"
	"fmt"
	"hash/fnv"
	"math"
	"reflect"
	"slices"
	"strings"
	"testing"

	"conclave/api"
	"conclave/sample"
)

func l(values ...uint64) []uint64 { return values }

// By the words of the chapters 8 and 20, with the library's numbers and sums, which the program may not use.

func isElementBy(f api.Field, a uint64) bool { return a < sample.Prime(f) }

func mayBy(m api.Msg) bool {
	for _, a := range m.Values {
		if !isElementBy(m.Field, a) {
			return false
		}
	}
	return (m.Kind == 1 || m.Kind == 2) && m.Round >= 0 && m.Round <= 65535 && m.Worker >= 0 && m.Worker <= 63 && (m.Field == 1 || m.Field == 2) && len(m.Values) <= 64
}

func sealBy(b []byte) []byte {
	piece := binary.BigEndian.AppendUint32(nil, uint32(len(b)))
	piece = append(piece, b...)
	h := fnv.New64a()
	h.Write(piece)
	return h.Sum(piece)
}

// innerBy is what is sealed of a message. One that may not be has something there too, as far as its numbers fit their bytes.
func innerBy(m api.Msg) []byte {
	b := []byte{byte(m.Kind)}
	b = binary.BigEndian.AppendUint32(b, uint32(m.Round))
	b = binary.BigEndian.AppendUint32(b, uint32(m.Worker))
	b = append(b, byte(m.Field))
	b = binary.BigEndian.AppendUint32(b, uint32(len(m.Values)))
	for _, a := range m.Values {
		if m.Field == api.Small {
			b = binary.BigEndian.AppendUint32(b, uint32(a))
		} else {
			b = binary.BigEndian.AppendUint64(b, a)
		}
	}
	return b
}

func bytesBy(m api.Msg) []byte { return sealBy(innerBy(m)) }

// answer is what Read answers.
type answer struct {
	m api.Msg
	e api.Errno
}

// unsealedBy is what a piece at the beginning of bytes holds, and the error, if there is none.
func unsealedBy(b []byte) ([]byte, api.Errno) {
	if len(b) < 4 {
		return nil, api.ErrShort
	}
	n := uint64(binary.BigEndian.Uint32(b))
	switch {
	case n >= 1<<31:
		return nil, api.ErrForm
	case n > 1<<20:
		return nil, api.ErrLimit
	case uint64(len(b)) < 4+n+8:
		return nil, api.ErrShort
	case !bytes.Equal(sealBy(b[4:4+n]), b[:4+n+8]):
		return nil, api.ErrSum
	}
	return b[4 : 4+n], api.OK
}

// readBy finds the numbers at their places, and holds what it made of them against the bytes.
func readBy(b []byte) answer {
	inner, e := unsealedBy(b)
	if e != api.OK {
		return answer{e: e}
	}
	none := answer{e: api.ErrForm}
	if len(inner) < 14 {
		return none
	}
	m := api.Msg{
		Kind:   api.MsgKind(inner[0]),
		Round:  int(binary.BigEndian.Uint32(inner[1:])),
		Worker: int(binary.BigEndian.Uint32(inner[5:])),
		Field:  api.Field(inner[9]),
	}
	size := 8
	if m.Field == api.Small {
		size = 4
	}
	for at := 14; at+size <= len(inner); at += size {
		a := binary.BigEndian.Uint64(append(make([]byte, 8-size), inner[at:at+size]...))
		m.Values = append(m.Values, a)
	}
	if !mayBy(m) || !bytes.Equal(bytesBy(m), b) {
		return none
	}
	return answer{m, api.OK}
}

// sameBy holds two messages against each other as a whole, no values written one way alone.
func sameBy(a, b api.Msg) bool {
	for _, m := range []*api.Msg{&a, &b} {
		if len(m.Values) == 0 {
			m.Values = nil
		}
	}
	return reflect.DeepEqual(a, b)
}

// brief tells a message that may be long.
func brief(m api.Msg) string {
	return fmt.Sprintf("kind %d, round %d, worker %d, field %d, %s", m.Kind, m.Round, m.Worker, m.Field, sample.Brief(m.Values))
}

func wantMay(t *testing.T, m api.Msg, want bool) {
	t.Helper()
	if got := May(m); got != want {
		t.Errorf("May(%s) = %v", brief(m), got)
	}
}

func wantSame(t *testing.T, a, b api.Msg, want bool) {
	t.Helper()
	if Same(a, b) != want || Same(b, a) != want {
		t.Errorf("Same(%s; %s) = %v, the other way %v", brief(a), brief(b), Same(a, b), Same(b, a))
	}
}

func wantWrite(t *testing.T, m api.Msg, want []byte, e api.Errno) {
	t.Helper()
	b, got := Write(m)
	if !bytes.Equal(b, want) || got != e {
		t.Errorf("Write(%s) = %.60x, %d bytes, %d, not %.60x, %d bytes, %d", brief(m), b, len(b), got, want, len(want), e)
	}
}

// wantNone has a message be told as one that may not be, and nothing be written of it.
func wantNone(t *testing.T, m api.Msg) {
	t.Helper()
	wantMay(t, m, false)
	wantWrite(t, m, nil, api.ErrArg)
}

// wantWhole has a message be told as one that may be, written and read.
func wantWhole(t *testing.T, m api.Msg) {
	t.Helper()
	wantMay(t, m, true)
	wantWrite(t, m, bytesBy(m), api.OK)
	wantRead(t, bytesBy(m), answer{m, api.OK})
}

func wantRead(t *testing.T, b []byte, want answer) {
	t.Helper()
	m, e := Read(b)
	if e != want.e || !sameBy(m, want.m) {
		t.Errorf("Read(%.60x), %d bytes = %s, %d, not %s, %d", b, len(b), brief(m), e, brief(want.m), want.e)
	}
}

// msg is a message that may be, but for what a test turns in it.
func msg(f api.Field, values ...uint64) api.Msg {
	return api.Msg{Kind: api.MReply, Round: 258, Worker: 5, Field: f, Values: values}
}

// turned is a message with one thing changed.
func turned(m api.Msg, turn func(m *api.Msg)) api.Msg {
	m.Values = slices.Clone(m.Values)
	turn(&m)
	return m
}

// hexed are bytes as the chapters' examples write them.
func hexed(s string) []byte {
	b, err := hex.DecodeString(strings.ReplaceAll(s, " ", ""))
	if err != nil {
		panic(err)
	}
	return b
}

// P20.1

func TestMessagesThatMayBe(t *testing.T) {
	for _, m := range sample.Msgs() {
		if !mayBy(m) {
			t.Fatalf("the sample %s may not be", brief(m))
		}
		wantWhole(t, m)
	}
}

func TestMessagesThatMayNotBe(t *testing.T) {
	for _, m := range sample.NoMsgs() {
		if mayBy(m) {
			t.Fatalf("the sample %s may be", brief(m))
		}
		wantNone(t, m)
	}
}

// wantBy has a message be as mayBy tells it.
func wantBy(t *testing.T, m api.Msg) {
	t.Helper()
	if mayBy(m) {
		wantWhole(t, m)
	} else {
		wantNone(t, m)
	}
}

func TestEachKindAndField(t *testing.T) {
	for n := range 256 {
		for _, values := range [][]uint64{nil, l(0), l(3, 4), l(math.MaxUint64)} {
			for _, f := range sample.Fields() {
				wantBy(t, turned(msg(f, values...), func(m *api.Msg) { m.Kind = api.MsgKind(n) }))
			}
			wantBy(t, msg(api.Field(n), values...))
		}
	}
}

func TestEachRoundAndWorker(t *testing.T) {
	for round := -3; round < 65540; round++ {
		wantBy(t, turned(msg(api.Small, 5), func(m *api.Msg) { m.Round = round }))
	}
	for worker := -70; worker < 300; worker++ {
		wantBy(t, turned(msg(api.Large, 5), func(m *api.Msg) { m.Worker = worker }))
	}
	// What a byte, a word or a sign would lose.
	for shift := range 63 {
		for _, n := range []int{1<<shift - 1, 1 << shift, 1<<shift + 1, -1 << shift, -1<<shift + 1, math.MinInt + 1<<shift, math.MaxInt - 1<<shift} {
			wantBy(t, turned(msg(api.Small, 5), func(m *api.Msg) { m.Round = n }))
			wantBy(t, turned(msg(api.Small, 5), func(m *api.Msg) { m.Worker = n }))
		}
	}
}

func TestEachNumberOfValues(t *testing.T) {
	for _, f := range sample.Fields() {
		for n := range 140 {
			wantBy(t, msg(f, make([]uint64, n)...))
			wantBy(t, msg(f, sample.Run(f, n, n)...))
		}
		for _, n := range []int{255, 256, 257, 320, 4095, 4096, 4097, 65536, 65600, 1 << 17} {
			wantBy(t, msg(f, make([]uint64, n)...))
			// With what is no element behind the most values that there may be.
			wantBy(t, msg(f, append(make([]uint64, n), math.MaxUint64)...))
		}
	}
}

func TestEachPlaceOfAValue(t *testing.T) {
	for _, f := range sample.Fields() {
		for _, n := range []int{1, 2, 3, 63, 64} {
			for at := range n {
				for _, a := range append(sample.Edges(f), sample.Outside(f)...) {
					values := sample.Run(f, 5, n)
					values[at] = a
					wantBy(t, msg(f, values...))
				}
			}
		}
	}
	// An element of the one field that is none of the other.
	wantNone(t, msg(api.Small, 2013265921))
	wantWhole(t, msg(api.Large, 2013265921))
}

// All fields at both ends, by hand.
func TestEnds(t *testing.T) {
	first := api.Msg{Kind: api.MShare, Field: api.Small}
	wantWrite(t, first, hexed("0000000e 01 00000000 00000000 01 00000000 c6f04c66cbc4fead"), api.OK)
	wantWhole(t, first)
	last := api.Msg{Kind: api.MReply, Round: 65535, Worker: 63, Field: api.Large, Values: slices.Repeat(l(18446744069414584320), 64)}
	wantWhole(t, last)
	if b, _ := Write(last); len(b) != 12+9+5+64*8 || !bytes.Equal(b[:26], hexed("0000020e 02 0000ffff 0000003f 02 00000040 ffffffff00000000")) {
		t.Errorf("Write(%s) = %x", brief(last), b)
	}
}

func TestSame(t *testing.T) {
	all := append(sample.Msgs(), sample.NoMsgs()...)
	for i, a := range all {
		if i%7 > 0 && len(a.Values) > 2 {
			continue
		}
		for _, b := range all[i:min(i+260, len(all))] {
			wantSame(t, a, b, sameBy(a, b))
		}
		wantSame(t, a, turned(a, func(m *api.Msg) {}), true)
	}
}

// others are messages each of which differs from m in one thing alone.
func others(m api.Msg) []api.Msg {
	var all []api.Msg
	add := func(turn func(m *api.Msg)) { all = append(all, turned(m, turn)) }
	for _, bit := range []int{0, 1, 7} {
		add(func(m *api.Msg) { m.Kind ^= 1 << bit })
		add(func(m *api.Msg) { m.Field ^= 1 << bit })
	}
	for _, bit := range []int{0, 5, 8, 16, 31, 32, 62, 63} {
		add(func(m *api.Msg) { m.Round ^= 1 << bit })
		add(func(m *api.Msg) { m.Worker ^= 1 << bit })
	}
	for i := range m.Values {
		for _, bit := range []int{0, 7, 8, 31, 32, 63} {
			add(func(m *api.Msg) { m.Values[i] ^= 1 << bit })
		}
	}
	if n := len(m.Values); n > 0 {
		add(func(m *api.Msg) { m.Values = m.Values[1:] })
		add(func(m *api.Msg) { m.Values = m.Values[:n-1] })
		add(func(m *api.Msg) { m.Values = nil })
	}
	add(func(m *api.Msg) { m.Values = append(m.Values, 0) })
	add(func(m *api.Msg) { m.Values = append(l(0), m.Values...) })
	return all
}

func TestSameButForOneThing(t *testing.T) {
	long := sample.Run(api.Large, 2, 64)
	for _, m := range []api.Msg{
		{}, msg(api.Small), msg(api.Small, 0), msg(api.Large, 5), msg(api.Small, 7, 7), msg(api.Small, 1, 2, 3, 4), msg(api.Large, long...),
		{Kind: 9, Round: -1, Worker: 64, Field: 77, Values: l(math.MaxUint64, 0, 1)},
		{Kind: api.MShare, Round: math.MaxInt, Worker: math.MinInt, Values: make([]uint64, 100)},
	} {
		for _, other := range others(m) {
			wantSame(t, m, other, false)
		}
		wantSame(t, m, m, true)
		wantSame(t, m, turned(m, func(m *api.Msg) { m.Values = append(m.Values, 9)[:len(m.Values)] }), true)
	}
	// Two things changed at once are no same message, though the one undoes the other in a sum.
	wantSame(t, msg(api.Small, 1, 2), msg(api.Small, 2, 1), false)
	wantSame(t, msg(api.Small, 5), turned(msg(api.Small, 5), func(m *api.Msg) { m.Round, m.Worker = m.Worker, m.Round }), false)
}

func TestSameOfNoValues(t *testing.T) {
	for _, f := range append(sample.Fields(), sample.NoFields()...) {
		nothing, empty := msg(f), msg(f)
		nothing.Values, empty.Values = nil, []uint64{}
		wantSame(t, nothing, empty, true)
		wantSame(t, nothing, turned(empty, func(m *api.Msg) { m.Values = make([]uint64, 3)[:0] }), true)
		wantBy(t, nothing)
		wantBy(t, empty)
	}
}

// The examples of the chapter.
func TestExamples(t *testing.T) {
	m := api.Msg{Kind: api.MReply, Round: 1, Worker: 2, Field: api.Small, Values: l(5)}
	b, e := Write(m)
	if len(b) != 30 || e != api.OK {
		t.Errorf("Write = %x, %d", b, e)
	}
	wantRead(t, b, answer{m, api.OK})
	wantRead(t, append(slices.Clone(b), 0), answer{e: api.ErrForm})
	b[29] ^= 1
	wantRead(t, b, answer{e: api.ErrSum})
	wantRead(t, nil, answer{e: api.ErrShort})
	wantRead(t, sealBy(nil), answer{e: api.ErrForm})
	wantWrite(t, turned(m, func(m *api.Msg) { m.Kind = api.NoMsg }), nil, api.ErrArg)
	wantMay(t, api.Msg{Kind: api.MShare, Round: 65536, Worker: 2, Field: api.Small, Values: l(5)}, false)
}
