package sample

import (
	"bytes"
	"math"
	"slices"
	"testing"

	"conclave/api"
)

// Lists of places lean on it: an element that stood twice would make another error of them.
func TestUnlike(t *testing.T) {
	for _, f := range Fields() {
		for _, n := range []int{0, 1, 2, 50, 513, 4097} {
			for _, from := range []int{0, 1, 60, 1000} {
				l := Unlike(f, from, n)
				slices.Sort(l)
				if len(slices.Compact(l)) != n {
					t.Errorf("field %d, %d from %d on: %s", f, n, from, Brief(l))
				}
			}
		}
	}
}

// Which workers are asked leans on these: a choice that named one twice would be no choice.
func TestChoices(t *testing.T) {
	if got := EveryChoice(4, 2); !slices.EqualFunc(got, [][]int{{0, 1}, {0, 2}, {1, 2}, {0, 3}, {1, 3}, {2, 3}}, slices.Equal[[]int]) {
		t.Errorf("EveryChoice(4, 2) = %v", got)
	}
	for _, c := range []struct{ n, many int }{{9, 1}, {9, 9}, {64, 0}, {64, 5}, {64, 63}} {
		for _, places := range SomeChoices(c.n, c.many) {
			if rising := slices.Compact(slices.Sorted(slices.Values(places))); len(rising) != c.many {
				t.Errorf("SomeChoices(%d, %d) has %v", c.n, c.many, places)
			}
		}
	}
}

func TestMixed(t *testing.T) {
	for n := range 65 {
		for from := range 4 {
			l := Mixed(from, n)
			if rising := slices.Sorted(slices.Values(l)); !slices.Equal(rising, Inputs(n)) {
				t.Errorf("Mixed(%d, %d) = %v", from, n, l)
			}
			if n > 20 && (slices.IsSorted(l) || slices.Equal(l, Mixed(from+1, n))) {
				t.Errorf("Mixed(%d, %d) = %v", from, n, l)
			}
		}
	}
}

// Which numbers are tried as draws leans on it: without numbers past the primes a rest would go unseen.
func TestTape(t *testing.T) {
	edges := TapeEdges()
	for _, f := range Fields() {
		p := Prime(f)
		for _, a := range []uint64{p - 1, p, p + 1, 1<<64 - 1} {
			if !slices.Contains(edges, a) {
				t.Errorf("field %d: %d is no edge", f, a)
			}
		}
	}
	for from := range 5 {
		tape := Tape(from, 2*len(edges))
		for _, a := range edges {
			if !slices.Contains(tape, a) {
				t.Errorf("Tape(%d) lacks the edge %d", from, a)
			}
		}
		if len(tape) != 2*len(edges) || slices.Equal(tape, Tape(from+1, len(tape))) || len(Tape(from, 0)) != 0 {
			t.Errorf("Tape(%d): %s", from, Brief(tape))
		}
	}
}

// What a message may be told by leans on these: both ends of all its numbers, and what is just past them.
func TestMsgs(t *testing.T) {
	tell := func(all []api.Msg) (rounds, workers, many map[int]int) {
		rounds, workers, many = map[int]int{}, map[int]int{}, map[int]int{}
		for _, m := range all {
			rounds[m.Round]++
			workers[m.Worker]++
			many[len(m.Values)]++
		}
		return rounds, workers, many
	}
	want := func(what string, seen map[int]int, wanted ...int) {
		for _, n := range wanted {
			if seen[n] == 0 {
				t.Errorf("%s: %d is not there", what, n)
			}
		}
	}
	rounds, workers, many := tell(Msgs())
	want("rounds", rounds, 0, 1, 256, 65534, 65535)
	want("workers", workers, 0, 1, 62, 63)
	want("numbers of values", many, 0, 1, 2, 63, 64)
	rounds, workers, many = tell(NoMsgs())
	want("rounds of none", rounds, -1, math.MinInt, 65536, 1<<32, math.MaxInt)
	want("workers of none", workers, -1, math.MinInt, 64, 1<<32, math.MaxInt)
	want("numbers of values of none", many, 65, 4096, 4097)
}

// Which bytes are none of a message's leans on these: of the very bytes that they were made of they would be.
func TestGarbled(t *testing.T) {
	for _, b := range [][]byte{nil, {0}, {7}, make([]byte, 30), Bytes(2, 30)} {
		before := slices.Clone(b)
		all, lengths := Garbled(b), map[int]int{}
		for _, c := range all {
			lengths[len(c)]++
			if bytes.Equal(b, c) {
				t.Errorf("Garbled(%x) has it", b)
			}
			Scribble(c)
		}
		if !bytes.Equal(b, before) || len(Turned(b)) != 4*len(b) {
			t.Errorf("%x is %x now; %d have one byte turned", before, b, len(Turned(b)))
		}
		for _, n := range []int{0, len(b) - 1, len(b), len(b) + 1} {
			if n >= 0 && n+len(b) > 0 && lengths[n] == 0 {
				t.Errorf("Garbled(%x) has none of %d bytes", b, n)
			}
		}
	}
}

// What is another message leans on these: one and the same is none.
func TestVariants(t *testing.T) {
	for _, m := range Msgs() {
		seen := map[string]int{}
		for _, v := range Variants(m) {
			same := map[string]bool{"kind": v.Kind == m.Kind, "round": v.Round == m.Round, "worker": v.Worker == m.Worker, "field": v.Field == m.Field, "values": len(v.Values) == len(m.Values)}
			other := ""
			for _, what := range []string{"kind", "round", "worker", "field", "values"} {
				if !same[what] {
					other += what + " "
				}
			}
			seen[other]++
			outside := slices.ContainsFunc(v.Values, func(a uint64) bool { return a >= Prime(v.Field) })
			if outside || v.Round < 0 || v.Round > 65535 || v.Worker < 0 || v.Worker > 63 || len(v.Values) > 64 || !slices.Contains(Kinds(), v.Kind) {
				t.Errorf("%v may not be", v)
			}
		}
		if seen[""] > 0 || seen["kind "] == 0 || seen["round "] < 5 || seen["worker "] != 63 || seen["field "] == 0 || seen["values "] != 64 || seen["kind round worker field values "] == 0 {
			t.Errorf("the variants of %v are unlike it in %v", m, seen)
		}
	}
}
