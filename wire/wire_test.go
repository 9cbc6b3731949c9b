package wire

// P8.1 to P8.3: what each call answers, and the chapter's examples.

import (
	"bytes"
	"encoding/binary"
	"encoding/hex"
	"hash/fnv"
	"math"
	"slices"
	"strings"
	"testing"

	"conclave/api"
	"conclave/sample"
)

// By the words of the chapter, with the library's numbers and sums, which the program may not use.

func sumBy(b []byte) uint64 {
	h := fnv.New64a()
	h.Write(b)
	return h.Sum64()
}

func countBy(n int) []byte { return binary.BigEndian.AppendUint32(nil, uint32(n)) }

func elementBy(f api.Field, a uint64) []byte {
	if f == api.Small {
		return binary.BigEndian.AppendUint32(nil, uint32(a))
	}
	return binary.BigEndian.AppendUint64(nil, a)
}

func listBy(f api.Field, l []uint64) []byte {
	b := append([]byte{byte(f)}, countBy(len(l))...)
	for _, a := range l {
		b = append(b, elementBy(f, a)...)
	}
	return b
}

func sealBy(b []byte) []byte {
	piece := slices.Concat(countBy(len(b)), b)
	return binary.BigEndian.AppendUint64(piece, sumBy(piece))
}

// hexed are bytes as the chapter's examples write them.
func hexed(s string) []byte {
	b, err := hex.DecodeString(strings.ReplaceAll(s, " ", ""))
	if err != nil {
		panic(err)
	}
	return b
}

// behind are bytes that may stand behind a form.
func behind() [][]byte {
	return [][]byte{nil, {0}, {255}, {0, 0, 0, 0}, {1, 0, 0, 0, 0}, {128, 0, 0, 0}, slices.Repeat([]byte{255}, 9), sealBy(nil), sample.Bytes(4, 40)}
}

// pieces are bytes to be sealed: none, one, few, such as are forms themselves, many.
func pieces() [][]byte {
	list := [][]byte{nil, {}, {0}, {255}, {0, 0, 0, 0}, {1, 2, 3}, []byte("ab"), sealBy(nil), sealBy([]byte{7}), listBy(api.Small, l(1, 2)), make([]byte, 100)}
	for _, n := range []int{7, 8, 9, 255, 256, 257, 4096, 65535, 65536, 65537} {
		list = append(list, sample.Bytes(n%5, n))
	}
	return list
}

// lists are lists of elements: none, each edge alone, many.
func lists(f api.Field) [][]uint64 {
	all := [][]uint64{nil, {}, l(0), l(1), l(0, 0, 0), sample.Elements(f)}
	for _, a := range sample.Elements(f) {
		all = append(all, l(a), l(a, 1), l(1, a))
	}
	for _, n := range []int{2, 3, 255, 256, 257, 4095, 4096} {
		all = append(all, sample.Run(f, n%7, n), make([]uint64, n), slices.Repeat(l(sample.Prime(f)-1), n))
	}
	return all
}

func l(a ...uint64) []uint64 { return a }

func wantSum(t *testing.T, b []byte, answer uint64) {
	t.Helper()
	if sum := Sum(b); sum != answer {
		t.Errorf("Sum(%.20x, of %d) = %d, not %d", b, len(b), sum, answer)
	}
}

func wantCount(t *testing.T, n int, answer []byte, e api.Errno) {
	t.Helper()
	if b, got := Count(n); !bytes.Equal(b, answer) || got != e {
		t.Errorf("Count(%d) = %x, %d, not %x, %d", n, b, got, answer, e)
	}
}

func wantReadCount(t *testing.T, b []byte, n, size int, e api.Errno) {
	t.Helper()
	if gotN, gotSize, got := ReadCount(b); gotN != n || gotSize != size || got != e {
		t.Errorf("ReadCount(%.20x, of %d) = %d, %d, %d, not %d, %d, %d", b, len(b), gotN, gotSize, got, n, size, e)
	}
}

func wantList(t *testing.T, f api.Field, list []uint64, answer []byte, e api.Errno) {
	t.Helper()
	if b, got := List(f, list); !bytes.Equal(b, answer) || got != e {
		t.Errorf("List(%d, %s) = %.20x, of %d, %d, not %.20x, of %d, %d", f, sample.Brief(list), b, len(b), got, answer, len(answer), e)
	}
}

func wantReadList(t *testing.T, b []byte, f api.Field, list []uint64, size int, e api.Errno) {
	t.Helper()
	if gotF, gotL, gotSize, got := ReadList(b); gotF != f || !slices.Equal(gotL, list) || gotSize != size || got != e {
		t.Errorf("ReadList(%.20x, of %d) = %d, %s, %d, %d, not %d, %s, %d, %d", b, len(b), gotF, sample.Brief(gotL), gotSize, got, f, sample.Brief(list), size, e)
	}
}

func wantSeal(t *testing.T, b, answer []byte, e api.Errno) {
	t.Helper()
	if piece, got := Seal(b); !bytes.Equal(piece, answer) || got != e {
		t.Errorf("Seal(%.20x, of %d) = %.20x, of %d, %d, not %.20x, of %d, %d", b, len(b), piece, len(piece), got, answer, len(answer), e)
	}
}

func wantUnseal(t *testing.T, b, answer []byte, size int, e api.Errno) {
	t.Helper()
	if inner, gotSize, got := Unseal(b); !bytes.Equal(inner, answer) || gotSize != size || got != e {
		t.Errorf("Unseal(%.20x, of %d) = %.20x, of %d, %d, %d, not %.20x, of %d, %d, %d", b, len(b), inner, len(inner), gotSize, got, answer, len(answer), size, e)
	}
}

// P8.1

func TestSum(t *testing.T) {
	for _, b := range pieces() {
		wantSum(t, b, sumBy(b))
	}
	for c := range 256 {
		wantSum(t, []byte{byte(c)}, sumBy([]byte{byte(c)}))
		wantSum(t, []byte{byte(c), 3}, sumBy([]byte{byte(c), 3}))
	}
	many := sample.Bytes(1, api.MaxBytes+5)
	wantSum(t, many, sumBy(many))
}

func TestSumByHand(t *testing.T) {
	start, factor := uint64(14695981039346656037), uint64(1099511628211)
	wantSum(t, nil, start)
	wantSum(t, []byte{}, start)
	for c := range 256 {
		wantSum(t, []byte{byte(c)}, (start^uint64(c))*factor)
	}
	wantSum(t, []byte("a"), 12638187200555641996)
	// From the left: the last byte is put against what the first ones made.
	wantSum(t, []byte("ab"), ((start^'a')*factor^'b')*factor)
}

func TestCount(t *testing.T) {
	for _, n := range []int{0, 1, 2, 127, 128, 255, 256, 257, 65535, 65536, 1<<24 - 1, 1 << 24, 1<<24 + 1, 16909060, 1<<31 - 2, 1<<31 - 1} {
		wantCount(t, n, countBy(n), api.OK)
		for _, rest := range behind() {
			wantReadCount(t, slices.Concat(countBy(n), rest), n, 4, api.OK)
		}
	}
	for _, n := range []int{-1, -2, -256, math.MinInt32, math.MinInt, 1 << 31, 1<<31 + 1, 1<<32 - 1, 1 << 32, 1<<32 + 258, math.MaxInt} {
		wantCount(t, n, nil, api.ErrArg)
	}
}

func TestCountByHand(t *testing.T) {
	wantCount(t, 0, hexed("00 00 00 00"), api.OK)
	wantCount(t, 16909060, hexed("01 02 03 04"), api.OK)
	wantCount(t, 2147483647, hexed("7f ff ff ff"), api.OK)
	wantReadCount(t, hexed("01 02 03 04"), 16909060, 4, api.OK)
	wantReadCount(t, hexed("7f ff ff ff"), 2147483647, 4, api.OK)
	wantReadCount(t, hexed("00 00 00 00 01"), 0, 4, api.OK)
}

// P8.2

func TestList(t *testing.T) {
	for _, f := range sample.Fields() {
		for _, list := range lists(f) {
			b := listBy(f, list)
			wantList(t, f, list, b, api.OK)
			for _, rest := range behind() {
				wantReadList(t, slices.Concat(b, rest), f, list, len(b), api.OK)
			}
		}
	}
}

func TestListByHand(t *testing.T) {
	for list, form := range map[[2]uint64]string{
		{0, 1}:                   "01 00 00 00 02 00 00 00 00 00 00 00 01",
		{2013265920, 16909060}:   "01 00 00 00 02 78 00 00 00 01 02 03 04",
		{1 << 24, 0x77ffffff}:    "01 00 00 00 02 01 00 00 00 77 ff ff ff",
		{0x01020304, 0x05060708}: "01 00 00 00 02 01 02 03 04 05 06 07 08",
	} {
		wantList(t, api.Small, list[:], hexed(form), api.OK)
		wantReadList(t, hexed(form), api.Small, list[:], 13, api.OK)
	}
	for a, form := range map[uint64]string{
		0:                    "02 00 00 00 01 00 00 00 00 00 00 00 00",
		0x0102030405060708:   "02 00 00 00 01 01 02 03 04 05 06 07 08",
		18446744069414584320: "02 00 00 00 01 ff ff ff ff 00 00 00 00",
		1<<64 - 1<<33:        "02 00 00 00 01 ff ff ff fe 00 00 00 00",
	} {
		wantList(t, api.Large, l(a), hexed(form), api.OK)
		wantReadList(t, hexed(form), api.Large, l(a), 13, api.OK)
	}
	wantList(t, api.Small, nil, hexed("01 00 00 00 00"), api.OK)
	wantReadList(t, hexed("01 00 00 00 00"), api.Small, nil, 5, api.OK)
	wantReadList(t, hexed("02 00 00 00 00 02"), api.Large, nil, 5, api.OK)
}

// P8.3

func TestSeal(t *testing.T) {
	for _, b := range append(pieces(), sample.Bytes(2, api.MaxBytes-1), make([]byte, api.MaxBytes)) {
		piece := sealBy(b)
		wantSeal(t, b, piece, api.OK)
		for _, rest := range behind() {
			wantUnseal(t, slices.Concat(piece, rest), b, len(piece), api.OK)
		}
	}
}

func TestSealByHand(t *testing.T) {
	for c := range 256 {
		b := []byte{0, 0, 0, 1, byte(c)}
		wantSeal(t, b[4:], binary.BigEndian.AppendUint64(b, sumBy(b)), api.OK)
	}
	// The sum is of the count too.
	piece, _ := Seal(nil)
	if !bytes.Equal(piece[:4], make([]byte, 4)) || binary.BigEndian.Uint64(piece[4:]) != sumBy(make([]byte, 4)) {
		t.Errorf("Seal of nothing: %x", piece)
	}
}

// The examples of the chapter.

func TestExamples(t *testing.T) {
	wantCount(t, 258, hexed("00 00 01 02"), api.OK)
	wantCount(t, -1, nil, api.ErrArg)
	wantReadCount(t, hexed("00 00 01 02 ff"), 258, 4, api.OK)
	wantReadCount(t, hexed("80 00 00 00"), 0, 0, api.ErrForm)
	wantReadCount(t, hexed("00"), 0, 0, api.ErrShort)
	wantList(t, api.Small, l(1), hexed("01 00 00 00 01 00 00 00 01"), api.OK)
	wantList(t, api.Large, nil, hexed("02 00 00 00 00"), api.OK)
	wantReadList(t, hexed("01 00 00 00 01 78 00 00 01"), api.NoField, nil, 0, api.ErrForm)
	wantReadList(t, hexed("03"), api.NoField, nil, 0, api.ErrForm)
	wantReadList(t, nil, api.NoField, nil, 0, api.ErrShort)
	wantSum(t, nil, 14695981039346656037)
	none, e := Seal(nil)
	if len(none) != 12 || e != api.OK {
		t.Errorf("Seal of nothing: %x, %d", none, e)
	}
	wantUnseal(t, append(none, 0), nil, 12, api.OK)
}
