package codec

// P20.3: what follows.

import (
	"bytes"
	"slices"
	"testing"

	"conclave/api"
	"conclave/sample"
)

func TestReadOfWriteIsTheMessage(t *testing.T) {
	for _, m := range sample.Msgs() {
		b, e := Write(m)
		if e != api.OK {
			t.Fatalf("Write(%s): %d", brief(m), e)
		}
		wantRead(t, b, answer{m, api.OK})
		if got, _ := Read(b); !Same(got, m) || !May(got) {
			t.Errorf("%s is read as %s", brief(m), brief(got))
		}
	}
}

// wantAgain has what is read of b, if anything is, be written as the very bytes that were read.
func wantAgain(t *testing.T, b []byte) (read int) {
	t.Helper()
	m, e := Read(b)
	if e != api.OK {
		return 0
	}
	again, e := Write(m)
	if !bytes.Equal(again, b) || e != api.OK || !May(m) {
		t.Errorf("%.60x, %d bytes, read as %s, is written as %.60x, %d bytes, %d", b, len(b), brief(m), again, len(again), e)
	}
	return 1
}

// wild are bytes without any order in the form of a message, but for numbers that are too high now and then.
func wild(from int) []byte {
	b := sample.Bytes(from, 16)
	f := sample.Fields()[b[0]%2]
	most := b[1] % 6
	inner := []byte{1 + b[2]%4/3 + b[2]%2, 0, b[3] / 250, b[4], b[5], 0, 0, b[6] / 250, b[7] % 70, byte(f), 0, 0, b[8] / 250, most}
	for i := range most {
		a := sample.Run(f, from+int(i), 1)[0]
		if b[9+i] == 7 {
			a = sample.Prime(f)
		}
		inner = append(inner, innerBy(msg(f, a))[atValues:]...)
	}
	return sealBy(inner)
}

func TestWhatIsReadIsWrittenAgain(t *testing.T) {
	read, all := 0, 4000
	for from := range all {
		b := wild(from)
		wantRead(t, b, readBy(b))
		read += wantAgain(t, b)
		wantAgain(t, sample.Bytes(from, from%80))
		wantAgain(t, sealBy(sample.Bytes(from, from%80)))
		wantAgain(t, append(b, 0))
	}
	if read < all/3 || read > all-all/20 {
		t.Errorf("%d of %d were read", read, all)
	}
	for _, m := range sample.NoMsgs() {
		wantAgain(t, bytesBy(m))
	}
	for _, m := range some() {
		inner := innerBy(m)
		for i := range inner {
			for bit := range 8 {
				wrong := slices.Clone(inner)
				wrong[i] ^= 1 << bit
				wantAgain(t, sealBy(wrong))
			}
		}
	}
}

// One form: of two messages that are not the same the bytes are others, so that none is read as the other.
func TestNoTwoMessagesHaveTheSameBytes(t *testing.T) {
	seen := map[string]api.Msg{}
	for _, m := range append(sample.Msgs(), some()...) {
		b, _ := Write(m)
		if other, ok := seen[string(b)]; ok && !Same(m, other) {
			t.Errorf("%s and %s are written the same way", brief(m), brief(other))
		}
		seen[string(b)] = m
	}
	for _, m := range some() {
		b, _ := Write(m)
		for _, other := range others(m) {
			if c, e := Write(other); e == api.OK && bytes.Equal(b, c) {
				t.Errorf("%s and %s are written the same way", brief(m), brief(other))
			}
		}
	}
}
