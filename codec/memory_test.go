package codec

// Rule 5: what is handed in stays as it is, and what is answered is new memory; and nothing is kept from call to call.

import (
	"slices"
	"testing"

	"conclave/api"
	"conclave/sample"
)

// held are messages that may be and that may not be, few of each.
func held() []api.Msg {
	all := append(some(), api.Msg{}, msg(api.Small, make([]uint64, 65)...), msg(api.Large, make([]uint64, 5000)...))
	for i, m := range append(sample.Msgs(), sample.NoMsgs()...) {
		if i%41 == 0 {
			all = append(all, m)
		}
	}
	return all
}

// with is m with other Values.
func with(m api.Msg, values []uint64) api.Msg {
	m.Values = values
	return m
}

func TestMemoryOfMessages(t *testing.T) {
	for _, m := range held() {
		calls := map[string]func(h [][]uint64) [][]uint64{
			"May":   func(h [][]uint64) [][]uint64 { May(with(m, h[0])); return nil },
			"Same":  func(h [][]uint64) [][]uint64 { Same(with(m, h[0]), with(m, h[1])); return nil },
			"Write": func(h [][]uint64) [][]uint64 { Write(with(m, h[0])); return nil },
			"Read": func(h [][]uint64) [][]uint64 {
				b, _ := Write(with(m, h[0]))
				one, _ := Read(b)
				other, _ := Read(b)
				return [][]uint64{one.Values, other.Values}
			},
		}
		for what, do := range calls {
			if wrong := sample.Apart(do, m.Values, m.Values); wrong != "" {
				t.Errorf("%s of %s: %s", what, brief(m), wrong)
			}
		}
		written := func([][]byte) [][]byte { b, _ := Write(m); return [][]byte{b} }
		if wrong := sample.Apart(written); wrong != "" {
			t.Errorf("the bytes of %s: %s", brief(m), wrong)
		}
	}
}

func TestMemoryOfBytes(t *testing.T) {
	for _, m := range held() {
		b := bytesBy(m)
		inner := innerBy(m)
		for _, handed := range [][]byte{b, b[:len(b)-1], append(slices.Clone(b), 0), inner, sealBy(inner[1:]), sealBy(append(slices.Clone(inner), 0)), nil} {
			read := func(h [][]byte) [][]byte { Read(h[0]); return nil }
			if wrong := sample.Apart(read, handed); wrong != "" {
				t.Errorf("Read(%.60x): %s", handed, wrong)
			}
		}
	}
}

// The room behind an end is none of what is handed in: bytes that would make a message whole may stand there.
func TestRoomIsNoneOfIt(t *testing.T) {
	for _, m := range some() {
		whole := append(bytesBy(m), bytesBy(m)...)
		n := len(whole) / 2
		wantRead(t, whole[:n], answer{m, api.OK})
		for cut := range n {
			wantRead(t, whole[:cut], answer{e: api.ErrShort})
		}
		values := append(slices.Clone(m.Values), 1<<63, 1<<64-1)
		wantWhole(t, with(m, values[:len(m.Values)]))
		wantSame(t, m, with(m, values[:len(m.Values)]), true)
	}
}

// What was read stays what it is, whatever is done with the bytes and whatever is read behind it.
func TestNothingIsKept(t *testing.T) {
	all := held()
	var before []answer
	for _, m := range all {
		b := bytesBy(m)
		got, e := Read(b)
		clear(b)
		before = append(before, answer{got, e})
	}
	slices.Reverse(all)
	for i, m := range all {
		wantRead(t, bytesBy(m), before[len(all)-1-i])
		wantBy(t, m)
		wantRead(t, nil, answer{e: api.ErrShort})
	}
}

func TestCallsAtOnce(t *testing.T) {
	done := make(chan bool)
	all := some()
	for range 4 {
		go func() {
			defer func() { done <- true }()
			for _, m := range all {
				wantWhole(t, m)
				wantNone(t, with(m, make([]uint64, 65)))
			}
		}()
	}
	for range 4 {
		<-done
	}
}
