package wire

// Rule 5: what is handed in stays as it is, and what is answered is new memory.

import (
	"testing"

	"conclave/api"
	"conclave/sample"
)

func TestMemoryOfBytes(t *testing.T) {
	calls := map[string]func(h [][]byte) [][]byte{
		"Sum":       func(h [][]byte) [][]byte { Sum(h[0]); return nil },
		"ReadCount": func(h [][]byte) [][]byte { ReadCount(h[0]); return nil },
		"ReadList":  func(h [][]byte) [][]byte { ReadList(h[0]); return nil },
		"Seal":      func(h [][]byte) [][]byte { b, _ := Seal(h[0]); return [][]byte{b} },
		"Unseal":    func(h [][]byte) [][]byte { b, _, _ := Unseal(h[0]); return [][]byte{b} },
		"Unseal of a piece": func(h [][]byte) [][]byte {
			a, _ := Seal(h[0])
			b, _, _ := Unseal(a)
			return [][]byte{a, b}
		},
	}
	for _, b := range pieces() {
		for _, handed := range [][]byte{b, sealBy(b), append(sealBy(b), 1, 2, 3), sealBy(b)[:len(b)], listBy(api.Small, l(1, 2, 3)), listBy(api.Large, nil)} {
			for what, do := range calls {
				if wrong := sample.Apart(do, handed); wrong != "" {
					t.Errorf("%s of %.20x: %s", what, handed, wrong)
				}
			}
		}
	}
}

func TestMemoryOfLists(t *testing.T) {
	for _, f := range append(sample.Fields(), api.NoField) {
		for _, list := range [][]uint64{nil, l(0), l(1, 2), sample.Run(api.Small, 1, 40), make([]uint64, 4096), make([]uint64, 4097), l(1 << 63), l(1<<64 - 1)} {
			write := func(h [][]uint64) [][]uint64 { List(f, h[0]); return nil }
			if wrong := sample.Apart(write, list); wrong != "" {
				t.Errorf("List(%d, %s): %s", f, sample.Brief(list), wrong)
			}
			form := func([][]byte) [][]byte { b, _ := List(f, list); return [][]byte{b} }
			if wrong := sample.Apart(form); wrong != "" {
				t.Errorf("the form of List(%d, %s): %s", f, sample.Brief(list), wrong)
			}
			b := listBy(api.Large, list)
			read := func([][]uint64) [][]uint64 { _, got, _, _ := ReadList(b); return [][]uint64{got} }
			if wrong := sample.Apart(read); wrong != "" {
				t.Errorf("ReadList of %s: %s", sample.Brief(list), wrong)
			}
		}
	}
}

func TestMemoryOfCounts(t *testing.T) {
	for _, n := range []int{0, 1, 258, 1<<31 - 1, -1} {
		form := func([][]byte) [][]byte { b, _ := Count(n); return [][]byte{b} }
		if wrong := sample.Apart(form); wrong != "" {
			t.Errorf("Count(%d): %s", n, wrong)
		}
	}
}
