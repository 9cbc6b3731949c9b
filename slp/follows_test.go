package slp

// P9.4: what follows.

import (
	"slices"
	"strings"
	"testing"

	"conclave/api"
	"conclave/sample"
)

// progs are many programs that may be.
func progs() []api.Prog {
	all := sample.Progs()
	for from := range 400 {
		all = append(all, sample.Prog(from, from*5%65, from%31, from*3%65), sample.Prog(from, from%3, from*11%257, from%3))
	}
	return all
}

func TestReadOfTextIsTheProgram(t *testing.T) {
	for _, p := range progs() {
		s, e := Text(p)
		if e != api.OK {
			t.Fatalf("Text(%s): %d", brief(p), e)
		}
		wantRead(t, s, p, 0, api.OK)
		if r, _, _ := Read(s); !Same(r, p) || !May(r) {
			t.Errorf("Read of the text of %s is %s", brief(p), brief(r))
		}
	}
}

// Texts about those of programs: what is taken is written as it was, and nothing is taken that is no program's.
func TestTextOfWhatReadTakesIsTheText(t *testing.T) {
	read := 0
	pieces := []string{"", " ", "\n", "0", "1", "7", "x", "t", "x0", "t0", " x0", " t1", "+", "-", "*", "=", "outs", "inputs 3\n", "t0 = 5\n", "t1 = x0 + t0\n", "outs t0\n"}
	for from := range 40 {
		p := sample.Prog(from, from%4, from%5, from%3)
		text := textBy(p)
		for i := range len(text) + 1 {
			for _, piece := range pieces {
				for _, s := range []string{text[:i] + piece + text[i:], text[:i] + piece + strings.TrimLeft(text[i:], "0123456789x")} {
					if r, line, e := Read(s); e == api.OK {
						read++
						wantText(t, r, s, api.OK)
						if line != 0 || !May(r) {
							t.Errorf("Read(%q) = %s, %d", s, brief(r), line)
						}
					}
				}
			}
		}
	}
	if read < 2000 {
		t.Errorf("only %d were read", read)
	}
}

func TestUnlikeProgramsHaveUnlikeTexts(t *testing.T) {
	texts := map[string]api.Prog{}
	for _, p := range progs() {
		s, _ := Text(p)
		if q, ok := texts[s]; ok && !Same(p, q) {
			t.Errorf("%s and %s have one text", brief(p), brief(q))
		}
		texts[s] = p
	}
}

func TestAfterOfAProgramThatDoesNothing(t *testing.T) {
	for _, p := range progs() {
		nothing := func(n int) api.Prog { return api.Prog{Inputs: n, Outs: sample.Inputs(n)} }
		wantAfter(t, p, nothing(p.Inputs), p, api.OK)
		wantAfter(t, nothing(len(p.Outs)), p, p, api.OK)
	}
}

// It does not matter which two of three are put together first.
func TestAfterOfThree(t *testing.T) {
	for from := range 200 {
		a, b := 1+from%6, 1+from%5
		r := sample.Prog(from, from%4, 1+from%13, a)
		q := sample.Prog(from+3, a, from%9, b)
		p := sample.Prog(from+5, b, from%17, from%8)
		pq, e1 := After(p, q)
		qr, e2 := After(q, r)
		left, e3 := After(pq, r)
		right, e4 := After(p, qr)
		if !slices.Equal([]api.Errno{e1, e2, e3, e4}, make([]api.Errno, 4)) || !Same(left, right) || !May(left) {
			t.Errorf("%s after %s after %s: %s, not %s", brief(p), brief(q), brief(r), brief(left), brief(right))
		}
	}
}
