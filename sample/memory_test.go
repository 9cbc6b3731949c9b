package sample

import (
	"slices"
	"testing"

	"conclave/api"
)

// What no layer does: the tests of all layers lean on Apart's finding it.
func TestApartFindsWhatIsAmiss(t *testing.T) {
	kept := []uint64{4, 5, 6}
	for what, do := range map[string]func(h [][]uint64) [][]uint64{
		"changes an argument":         func(h [][]uint64) [][]uint64 { h[0][0]++; return nil },
		"changes the room behind one": func(h [][]uint64) [][]uint64 { _ = append(h[1], 1); return nil },
		"answers an argument":         func(h [][]uint64) [][]uint64 { return h[:1] },
		"answers a piece of one":      func(h [][]uint64) [][]uint64 { return [][]uint64{h[1][1:]} },
		"answers none, and its room":  func(h [][]uint64) [][]uint64 { return [][]uint64{h[1][:0]} },
		"answers one list twice":      func(h [][]uint64) [][]uint64 { a := []uint64{1, 2}; return [][]uint64{a, a} },
		"answers two pieces of one":   func(h [][]uint64) [][]uint64 { a := []uint64{1, 2}; return [][]uint64{a[:1], a[1:]} },
		"answers what it keeps":       func(h [][]uint64) [][]uint64 { return [][]uint64{kept} },
	} {
		if Apart(do, []uint64{1, 2}, []uint64{3}) == "" {
			t.Errorf("a call that %s is not found", what)
		}
	}
}

func TestApartFindsNothingElse(t *testing.T) {
	fresh := func(h [][]uint64) [][]uint64 { return [][]uint64{Padded(h[0], 5), nil, Padded(h[1], 9)} }
	if wrong := Apart(fresh, []uint64{1, 2}, nil); wrong != "" {
		t.Errorf("new memory: %s", wrong)
	}
}

func TestApartBlocksFindsWhatIsAmiss(t *testing.T) {
	kept := [][]uint64{{4}, {5, 6}}
	for what, do := range map[string]func(h [][][]uint64) [][][]uint64{
		"changes an argument":         func(h [][][]uint64) [][][]uint64 { h[0][0] = []uint64{9}; return nil },
		"takes a block away":          func(h [][][]uint64) [][][]uint64 { h[0][1] = nil; return nil },
		"changes the room behind one": func(h [][][]uint64) [][][]uint64 { _ = append(h[1], []uint64{1}); return nil },
		"answers an argument":         func(h [][][]uint64) [][][]uint64 { return h[:1] },
		"answers a piece of one":      func(h [][][]uint64) [][][]uint64 { return [][][]uint64{h[0][1:]} },
		"answers none, and its room":  func(h [][][]uint64) [][][]uint64 { return [][][]uint64{h[1][:0]} },
		"answers two pieces of one":   func(h [][][]uint64) [][][]uint64 { a := Blocks(api.Small, 1, 2, 3); return [][][]uint64{a[:1], a[1:]} },
		"answers what it keeps":       func(h [][][]uint64) [][][]uint64 { return [][][]uint64{kept} },
	} {
		if ApartBlocks(do, [][]uint64{{1, 2}, {3}}, nil) == "" {
			t.Errorf("a call that %s is not found", what)
		}
	}
	fresh := func(h [][][]uint64) [][][]uint64 { return [][][]uint64{copies(h[0]), nil, copies(h[1])} }
	if wrong := ApartBlocks(fresh, [][]uint64{{1, 2}, {3}}, nil); wrong != "" {
		t.Errorf("new memory: %s", wrong)
	}
}

func TestApartRepliesFindsWhatIsAmiss(t *testing.T) {
	list := []api.Reply{{Worker: 1, Values: []uint64{1, 2}}, {Values: []uint64{3}}}
	for what, do := range map[string]func(h [][]api.Reply) [][]api.Reply{
		"changes a worker":  func(h [][]api.Reply) [][]api.Reply { h[0][1].Worker++; return nil },
		"takes values away": func(h [][]api.Reply) [][]api.Reply { h[0][0].Values = nil; return nil },
		"puts replies in an order": func(h [][]api.Reply) [][]api.Reply {
			slices.SortFunc(h[0], func(a, b api.Reply) int { return a.Worker - b.Worker })
			return nil
		},
		"changes the room behind one": func(h [][]api.Reply) [][]api.Reply { _ = append(h[0], api.Reply{}); return nil },
		"answers an argument":         func(h [][]api.Reply) [][]api.Reply { return h },
		"answers a piece of one":      func(h [][]api.Reply) [][]api.Reply { return [][]api.Reply{h[0][1:]} },
	} {
		if ApartReplies(do, list) == "" {
			t.Errorf("a call that %s is not found", what)
		}
	}
	fresh := func(h [][]api.Reply) [][]api.Reply { return copies(h) }
	if wrong := ApartReplies(fresh, list, nil); wrong != "" {
		t.Errorf("new memory: %s", wrong)
	}
}

func TestApartPacketsFindsWhatIsAmiss(t *testing.T) {
	list := []api.Packet{{From: 1, Bytes: []byte{1, 2}}, {To: 2, Bytes: []byte{3}}, {From: 1}}
	for what, do := range map[string]func(h [][]api.Packet) [][]api.Packet{
		"changes where one is from": func(h [][]api.Packet) [][]api.Packet { h[0][1].From++; return nil },
		"changes where one goes to": func(h [][]api.Packet) [][]api.Packet { h[0][2].To--; return nil },
		"takes bytes away":          func(h [][]api.Packet) [][]api.Packet { h[0][0].Bytes = nil; return nil },
		"puts packets in an order": func(h [][]api.Packet) [][]api.Packet {
			slices.SortFunc(h[0], func(a, b api.Packet) int { return a.From - b.From })
			return nil
		},
		"changes the room behind": func(h [][]api.Packet) [][]api.Packet { _ = append(h[0], api.Packet{}); return nil },
		"answers an argument":     func(h [][]api.Packet) [][]api.Packet { return h },
		"answers a piece of one":  func(h [][]api.Packet) [][]api.Packet { return [][]api.Packet{h[0][:1]} },
	} {
		if ApartPackets(do, list) == "" {
			t.Errorf("a call that %s is not found", what)
		}
	}
	fresh := func(h [][]api.Packet) [][]api.Packet { return copies(h) }
	if wrong := ApartPackets(fresh, list, nil); wrong != "" {
		t.Errorf("new memory: %s", wrong)
	}
}

func TestApartProgsFindsWhatIsAmiss(t *testing.T) {
	kept := Prog(1, 2, 3, 4)
	for what, do := range map[string]func(h []api.Prog) []api.Prog{
		"changes a step":                func(h []api.Prog) []api.Prog { h[0].Ops[1].C++; return nil },
		"changes an Out":                func(h []api.Prog) []api.Prog { h[1].Outs[1]++; return nil },
		"changes the room of steps":     func(h []api.Prog) []api.Prog { _ = append(h[1].Ops, api.Op{A: 5}); return nil },
		"changes the room of Outs":      func(h []api.Prog) []api.Prog { _ = append(h[0].Outs, 5); return nil },
		"answers an argument":           func(h []api.Prog) []api.Prog { return h[1:] },
		"answers an argument's steps":   func(h []api.Prog) []api.Prog { return []api.Prog{{Ops: h[0].Ops}} },
		"answers an argument's Outs":    func(h []api.Prog) []api.Prog { return []api.Prog{{Outs: h[1].Outs[1:]}} },
		"answers one program twice":     func(h []api.Prog) []api.Prog { p := Prog(1, 2, 3, 4); return []api.Prog{p, p} },
		"answers what it keeps":         func(h []api.Prog) []api.Prog { return []api.Prog{kept} },
		"answers none and a list's end": func(h []api.Prog) []api.Prog { return []api.Prog{{Ops: h[0].Ops[:0]}} },
	} {
		if ApartProgs(do, Prog(2, 1, 4, 3), Prog(3, 2, 2, 2)) == "" {
			t.Errorf("a call that %s is not found", what)
		}
	}
}

func TestApartProgsFindsNothingElse(t *testing.T) {
	fresh := func(h []api.Prog) []api.Prog { return []api.Prog{Prog(1, 2, 3, 4), {}, Prog(1, 2, 3, 4)} }
	if wrong := ApartProgs(fresh, Prog(2, 1, 4, 3), api.Prog{}); wrong != "" {
		t.Errorf("new memory: %s", wrong)
	}
}
