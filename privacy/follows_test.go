package privacy

// P15.3: what follows.

import (
	"slices"
	"testing"

	"conclave/api"
	"conclave/field"
	"conclave/sample"
)

func TestNothingIsLearned(t *testing.T) {
	everywhere(func(p api.Plan, who []int, r round) {
		twin, e := Twin(p, who, r.data, r.pads, r.other)
		seen, e2 := Seen(p, who, r.data, r.pads)
		if e != api.OK || e2 != api.OK || len(seen) != len(who) {
			t.Fatalf("%v, %v: %d shares, %d, %d", p, who, len(seen), e, e2)
		}
		wantSeen(t, p, who, r.other, twin, seen, api.OK)
	})
}

// Of those who are named any part sees the same, and so do the first others with them.
func TestNothingIsLearnedByFewer(t *testing.T) {
	for _, f := range sample.Fields() {
		p := sample.With(sample.Plan(6, 2, 3, 0, 0, 1), f, 2)
		for _, r := range rounds(p) {
			for _, who := range choices(p) {
				twin, _ := Twin(p, who, r.data, r.pads, r.other)
				for many := range p.T + 1 {
					for _, places := range sample.EveryChoice(p.T, many) {
						var some []int
						for _, at := range places {
							some = append(some, keptBy(p, who)[at])
						}
						seen, _ := Seen(p, some, r.data, r.pads)
						wantSeen(t, p, some, r.other, twin, seen, api.OK)
					}
				}
			}
		}
	}
}

// Where the other data are others, somebody who is not kept has another share: those of K + T workers tell the data.
func TestMoreWorkersLearnSomething(t *testing.T) {
	for _, f := range sample.Fields() {
		p := sample.With(sample.Plan(6, 2, 3, 0, 0, 1), f, 1)
		for _, who := range choices(p) {
			twin, _ := Twin(p, who, single(5, 7), single(9, 3, 4), single(6, 7))
			if same(seenBy(p, sample.Inputs(6), single(5, 7), single(9, 3, 4)), seenBy(p, sample.Inputs(6), single(6, 7), twin)) {
				t.Errorf("Twin(%v, %v): all workers see the same", p, who)
			}
		}
	}
}

func TestTwinOfTheTwinIsThePads(t *testing.T) {
	everywhere(func(p api.Plan, who []int, r round) {
		twin, e := Twin(p, who, r.data, r.pads, r.other)
		if e != api.OK || len(twin) != p.T {
			t.Fatalf("Twin(%v, %v) has %d pads, %d", p, who, len(twin), e)
		}
		wantTwin(t, p, who, r.other, twin, r.data, r.pads, api.OK)
	})
}

// From one choice of data to the next and to a third is as good as from the first to the third.
func TestTwinByAThird(t *testing.T) {
	for _, p := range []api.Plan{sample.Plan(4, 2, 1, 0, 0, 1), sample.Plan(6, 2, 3, 0, 0, 1), sample.Plan(1, 2, 5, 0, 0, 1)} {
		for _, f := range sample.Fields() {
			p = sample.With(p, f, 3)
			for _, who := range choices(p) {
				r := rounds(p)[0]
				third := sample.EdgeBlocks(f, 5, p.K, p.Width)
				twin, _ := Twin(p, who, r.data, r.pads, r.other)
				straight, e := Twin(p, who, r.data, r.pads, third)
				if e != api.OK || len(straight) != p.T {
					t.Fatalf("Twin(%v, %v) has %d pads, %d", p, who, len(straight), e)
				}
				wantTwin(t, p, who, r.other, twin, third, straight, api.OK)
			}
		}
	}
}

// Pads that differ in one element alone, at each place of each pad.
func TestUnlikePadsHaveUnlikeTwins(t *testing.T) {
	for _, p := range grounds() {
		if p.K+p.T > 20 || p.Width > 7 {
			continue
		}
		r, whos := rounds(p)[0], choices(p)
		for _, who := range [][]int{whos[0], whos[len(whos)/2], whos[len(whos)-1]} {
			twin, _ := Twin(p, who, r.data, r.pads, r.other)
			for pad := range p.T {
				for place := range p.Width {
					a, _ := field.Add(p.Field, r.pads[pad][place], 1)
					unlike, e := Twin(p, who, r.data, sample.Put(r.pads, pad, place, a), r.other)
					if e != api.OK || len(unlike) != p.T || same(unlike, twin) {
						t.Errorf("Twin(%v, %v) is %s, with the pad %d changed too, %d", p, who, brief(unlike), pad, e)
					}
				}
			}
		}
	}
}

// All choices of pads out of some elements: no two have the same twin.
func TestTwinIsOneToOne(t *testing.T) {
	for _, f := range sample.Fields() {
		elements := append(l(0, 1, 2, sample.Prime(f)-1, sample.Prime(f)/2), sample.Scattered(f, 3)...)
		for _, p := range []api.Plan{sample.Plan(3, 2, 2, 0, 0, 1), sample.Plan(1, 1, 2, 0, 0, 1), sample.Plan(4, 3, 1, 0, 0, 1)} {
			p.Field = f
			for _, who := range choices(p) {
				twins := map[[2]uint64]int{}
				for i := range len(elements) * len(elements) {
					pads := single(elements[i/len(elements)], elements[i%len(elements)])[:p.T]
					twin, e := Twin(p, who, sample.Blocks(f, 1, p.K, 1), pads, sample.Blocks(f, 5, p.K, 1))
					if e != api.OK || len(twin) != p.T {
						t.Fatalf("Twin(%v, %v) has %d pads, %d", p, who, len(twin), e)
					}
					var key [2]uint64
					copy(key[:], slices.Concat(twin...))
					twins[key]++
				}
				// With one pad the second element is cut off, so that each choice came up for all of these.
				want := len(elements)
				if p.T == 2 {
					want *= len(elements)
				}
				if len(twins) != want {
					t.Errorf("%v, %v: %d choices of pads have %d twins", p, who, want, len(twins))
				}
			}
		}
	}
}
