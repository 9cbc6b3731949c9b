package wire

// P8.1 to P8.3: the errors, which of them comes first, and what stands beside them.

import (
	"encoding/binary"
	"slices"
	"testing"

	"conclave/api"
	"conclave/sample"
)

// counts are counts as bytes: within both limits, at them, one past them, and such as are none.
func counts() [][]byte {
	var all [][]byte
	for _, n := range []uint32{0, 1, 2, 3, 255, 256, 4095, 4096, 4097, 65536, 1<<20 - 1, 1 << 20, 1<<20 + 1, 1<<24 + 1, 1<<31 - 1, 1 << 31, 1<<31 + 1, 1<<32 - 1} {
		all = append(all, binary.BigEndian.AppendUint32(nil, n))
	}
	return all
}

func readCountBy(b []byte) (n, size int, e api.Errno) {
	switch {
	case len(b) < 4:
		return 0, 0, api.ErrShort
	case b[0] > 127:
		return 0, 0, api.ErrForm
	}
	return int(binary.BigEndian.Uint32(b)), 4, api.OK
}

func numberBy(f api.Field, b []byte, i int) uint64 {
	if f == api.Small {
		return uint64(binary.BigEndian.Uint32(b[4*i:]))
	}
	return binary.BigEndian.Uint64(b[8*i:])
}

func readListBy(b []byte) (f api.Field, list []uint64, size int, e api.Errno) {
	if len(b) == 0 {
		return 0, nil, 0, api.ErrShort
	}
	f = api.Field(b[0])
	if b[0] != 1 && b[0] != 2 {
		return 0, nil, 0, api.ErrForm
	}
	n, _, e := readCountBy(b[1:])
	if e != api.OK {
		return 0, nil, 0, e
	}
	if n > 4096 {
		return 0, nil, 0, api.ErrLimit
	}
	bytesOfAll := n * map[api.Field]int{api.Small: 4, api.Large: 8}[f]
	if len(b)-5 < bytesOfAll {
		return 0, nil, 0, api.ErrShort
	}
	for i := range n {
		a := numberBy(f, b[5:], i)
		if a >= sample.Prime(f) {
			return 0, nil, 0, api.ErrForm
		}
		list = append(list, a)
	}
	return f, list, 5 + bytesOfAll, api.OK
}

func unsealBy(b []byte) (inner []byte, size int, e api.Errno) {
	n, _, e := readCountBy(b)
	switch {
	case e != api.OK:
		return nil, 0, e
	case n > 1<<20:
		return nil, 0, api.ErrLimit
	case len(b) < 4+n+8:
		return nil, 0, api.ErrShort
	case sumBy(b[:4+n]) != binary.BigEndian.Uint64(b[4+n:]):
		return nil, 0, api.ErrSum
	}
	return b[4 : 4+n], n + 12, api.OK
}

// wantRead has all bytes read as the chapter says.
func wantRead(t *testing.T, b []byte) {
	t.Helper()
	n, size, e := readCountBy(b)
	wantReadCount(t, b, n, size, e)
	f, list, size, e := readListBy(b)
	wantReadList(t, b, f, list, size, e)
	inner, size, e := unsealBy(b)
	wantUnseal(t, b, inner, size, e)
}

// P8.1

func TestReadCountFaulty(t *testing.T) {
	for _, b := range counts() {
		for n := range 5 {
			// Too few bytes come ahead of too high ones.
			wantRead(t, b[:n])
			if n < 4 {
				wantReadCount(t, b[:n], 0, 0, api.ErrShort)
			}
		}
		wantRead(t, append(b, 255))
	}
	for c := 128; c < 256; c++ {
		wantReadCount(t, []byte{byte(c), 0, 0, 0}, 0, 0, api.ErrForm)
		wantReadCount(t, []byte{byte(c), 255, 255, 255, 0}, 0, 0, api.ErrForm)
		wantReadCount(t, []byte{byte(c), 0, 0}, 0, 0, api.ErrShort)
	}
}

// P8.2

func TestListFaulty(t *testing.T) {
	for _, f := range sample.NoFields() {
		for _, list := range [][]uint64{nil, {}, l(0), l(1, 2), l(1<<64 - 1), make([]uint64, 4097)} {
			wantList(t, f, list, nil, api.ErrArg)
		}
	}
	for _, f := range sample.Fields() {
		for _, list := range sample.Faulty(f) {
			wantList(t, f, list, nil, api.ErrArg)
		}
		for _, list := range sample.TooLong(f, 4096) {
			wantList(t, f, list, nil, api.ErrLimit)
		}
	}
	// An element of the one field that is none of the other.
	wantList(t, api.Small, l(2013265921), nil, api.ErrArg)
	wantList(t, api.Large, l(2013265921), hexed("02 00 00 00 01 00 00 00 00 78 00 00 01"), api.OK)
}

// tails are what may stand behind a list's count: too few bytes, just enough and more, of which the first, one within, the last number is no element, or none is amiss.
func tails() [][]byte {
	all := [][]byte{nil, {0}, {255, 255, 255}, make([]byte, 4096*4-1), make([]byte, 4096*4), make([]byte, 4096*8-1), make([]byte, 4096*8), make([]byte, 4097*8)}
	for n := range 27 {
		all = append(all, make([]byte, n), slices.Repeat([]byte{255}, n), slices.Repeat([]byte{1}, n))
	}
	for _, f := range sample.Fields() {
		out := elementBy(f, sample.Prime(f))
		for at := 0; at < 24; at += len(out) {
			b := make([]byte, 24)
			copy(b[at:], out)
			all = append(all, b, b[:at+len(out)], b[:at+len(out)-1], b[:23])
		}
		last := make([]byte, 4096*len(out))
		copy(last[4095*len(out):], out)
		all = append(all, last, last[:len(last)-1], append(slices.Clone(last), 0))
	}
	return all
}

func TestReadListFaulty(t *testing.T) {
	wantReadList(t, nil, 0, nil, 0, api.ErrShort)
	wantReadList(t, []byte{}, 0, nil, 0, api.ErrShort)
	for first := range 256 {
		for _, rest := range behind() {
			wantRead(t, append([]byte{byte(first)}, rest...))
		}
	}
	for _, first := range []byte{0, 1, 2, 3, 255} {
		for _, count := range counts() {
			for n := range 4 {
				wantRead(t, append([]byte{first}, count[:n]...))
			}
			for _, tail := range tails() {
				wantRead(t, slices.Concat([]byte{first}, count, tail))
			}
		}
	}
}

func TestReadListEndsEarly(t *testing.T) {
	for _, f := range sample.Fields() {
		for _, list := range [][]uint64{nil, l(0), l(1, 2, 3), sample.Edges(f)} {
			b := listBy(f, list)
			for n := range len(b) {
				wantReadList(t, b[:n:n], 0, nil, 0, api.ErrShort)
				// The room behind the end is not looked at.
				wantReadList(t, b[:n], 0, nil, 0, api.ErrShort)
			}
		}
		most := listBy(f, sample.Run(f, 3, 4096))
		for _, n := range []int{4, 5, 6, 12, len(most) / 2, len(most) - 8, len(most) - 1} {
			wantReadList(t, most[:n], 0, nil, 0, api.ErrShort)
		}
	}
}

// P8.3

func TestSealFaulty(t *testing.T) {
	for _, n := range []int{1<<20 + 1, 1<<20 + 2, 1 << 21} {
		wantSeal(t, make([]byte, n), nil, api.ErrLimit)
	}
	wantSeal(t, sample.Bytes(3, 1<<20), sealBy(sample.Bytes(3, 1<<20)), api.OK)
}

func TestUnsealFaulty(t *testing.T) {
	for _, count := range counts() {
		for n := range 5 {
			wantRead(t, count[:n])
		}
		for _, n := range []int{1, 7, 8, 9, 10, 11, 12, 263, 264} {
			wantRead(t, slices.Concat(count, sample.Bytes(n, n)))
		}
	}
	// Limits of the count, with all the bytes that it speaks of, and a right sum.
	for _, n := range []int{1<<20 - 1, 1 << 20, 1<<20 + 1} {
		piece := sealBy(sample.Bytes(1, n))
		for _, b := range [][]byte{piece, append(slices.Clone(piece), 1, 2), piece[:len(piece)-1], piece[:len(piece)-8], piece[:len(piece)-9], piece[:4]} {
			inner, size, e := unsealBy(b)
			wantUnseal(t, b, inner, size, e)
		}
	}
}

func TestUnsealEndsEarly(t *testing.T) {
	for _, b := range pieces()[:14] {
		piece := sealBy(b)
		for n := range len(piece) {
			wantUnseal(t, piece[:n:n], nil, 0, api.ErrShort)
			// The room behind the end is not looked at.
			wantUnseal(t, piece[:n], nil, 0, api.ErrShort)
		}
	}
}

func TestUnsealOfAnotherSum(t *testing.T) {
	for _, b := range pieces()[:14] {
		piece := sealBy(b)
		end := len(piece) - 8
		sum := sumBy(piece[:end])
		for _, wrong := range []uint64{0, sum + 1, sum - 1, ^sum, sum ^ 1<<63, sum ^ 1<<31, sumBy(b), sumBy(nil)} {
			other := binary.BigEndian.AppendUint64(slices.Clone(piece[:end]), wrong)
			wantUnseal(t, other, nil, 0, api.ErrSum)
			wantUnseal(t, append(other, piece...), nil, 0, api.ErrSum)
		}
		if len(b) > 0 {
			// The lowest byte first would be another form.
			back := binary.LittleEndian.AppendUint64(slices.Clone(piece[:end]), sum)
			wantUnseal(t, back, nil, 0, api.ErrSum)
		}
	}
}
