package slp

// P9.2 and P9.3: the errors, which of them comes first, the line that is told, and what stands beside them.

import (
	"fmt"
	"slices"
	"strconv"
	"strings"
	"testing"

	"conclave/api"
	"conclave/sample"
)

// looseNumber takes more than a number's form; what it takes too much is found when it is written again.
func looseNumber(word string) int {
	n, err := strconv.Atoi(word)
	if err != nil {
		return -1
	}
	return n
}

func looseValue(word string, inputs int) int {
	if digits, ok := strings.CutPrefix(word, "t"); ok && looseNumber(digits) >= 0 {
		return inputs + looseNumber(digits)
	}
	return looseNumber(strings.TrimPrefix(word, "x"))
}

func looseStep(words []string, inputs int) api.Op {
	switch len(words) {
	case 3:
		c, _ := strconv.ParseUint(words[2], 10, 64)
		return constant(c)
	case 5:
		return step(api.OpKind(strings.Index("?+-*", words[3])), looseValue(words[2], inputs), looseValue(words[4], inputs))
	}
	return api.Op{}
}

// readBy guesses a program of each beginning of s, line by line, and has it written: the beginning goes on as a text does, if that is it, with or without a line of Outs behind.
func readBy(s string) (api.Prog, int, api.Errno) {
	var p api.Prog
	pieces := strings.SplitAfter(s, "\n")
	for i, piece := range pieces {
		words := strings.Fields(piece)
		behind := "outs\n"
		switch {
		case piece == "":
			// Nothing stands behind the last byte 10: the line of Outs is wanting.
			return api.Prog{}, i + 1, api.ErrLine
		case i == 0 && len(words) == 2:
			p.Inputs = looseNumber(words[1])
		case strings.HasPrefix(piece, "outs"):
			behind = ""
			for _, word := range words[1:] {
				p.Outs = append(p.Outs, looseValue(word, p.Inputs))
			}
		default:
			p.Ops = append(p.Ops, looseStep(words, p.Inputs))
		}
		if !mayBy(p) || textBy(p) != strings.Join(pieces[:i+1], "")+behind {
			return api.Prog{}, i + 1, api.ErrLine
		}
		if behind == "" && strings.Join(pieces[i+1:], "") != "" {
			return api.Prog{}, i + 2, api.ErrLine
		}
		if behind == "" {
			break
		}
	}
	return p, 0, api.OK
}

func wantReadBy(t *testing.T, s string) (read bool) {
	t.Helper()
	p, line, e := readBy(s)
	wantRead(t, s, p, line, e)
	return e == api.OK
}

func wantNoLine(t *testing.T, s string, line int) {
	t.Helper()
	wantRead(t, s, api.Prog{}, line, api.ErrLine)
}

// P9.2

func TestTextOfNoProgram(t *testing.T) {
	for _, p := range sample.NoProgs() {
		wantText(t, p, "", api.ErrArg)
	}
}

func TestReadWithoutALine(t *testing.T) {
	lines := []string{"inputs 2\n", "t0 = x0 * x1\n", "t1 = t0 + x0\n", "t2 = 5\n", "outs t1\n"}
	for n := range lines {
		wantNoLine(t, strings.Join(lines[:n], ""), n+1)
		// A line without its byte 10 is none, and neither is a piece of one.
		cut := strings.Join(lines[:n+1], "")
		wantNoLine(t, cut[:len(cut)-1], n+1)
		wantNoLine(t, cut[:len(cut)-2], n+1)
	}
	for n, line := range map[int]int{0: 1, 1: 2, 2: 3, 4: 5} {
		wantNoLine(t, strings.Join(slices.Delete(slices.Clone(lines), n, n+1), ""), line)
	}
	// Without the last step, on which nothing hangs, it is another program's text.
	wantRead(t, lines[0]+lines[1]+lines[2]+lines[4], api.Prog{Inputs: 2, Ops: ops(step(api.OMul, 0, 1), step(api.OAdd, 2, 0)), Outs: []int{3}}, 0, api.OK)
}

func TestReadWithALineTooMany(t *testing.T) {
	text := "inputs 1\nt0 = x0 * x0\nouts t0\n"
	for _, more := range []string{"\n", " ", "\n\n", "x", "outs\n", "outs t0\n", "t1 = 5\n", "inputs 1\n", text, "\x00", "#\n"} {
		wantNoLine(t, text+more, 4)
	}
	for s, line := range map[string]int{
		"inputs 1\ninputs 1\nt0 = x0 * x0\nouts t0\n":     2,
		"inputs 1\nt0 = x0 * x0\nt0 = x0 * x0\nouts t0\n": 3,
		"\ninputs 1\nt0 = x0 * x0\nouts t0\n":             1,
		"inputs 1\n\nt0 = x0 * x0\nouts t0\n":             2,
		"inputs 1\nt0 = x0 * x0\n\nouts t0\n":             3,
		"inputs 1\nt0 = x0 * x0\nouts\nouts t0\n":         4,
		"\n":                           1,
		"\n\n":                         1,
		"inputs 1\n\n":                 2,
		"outs\n":                       1,
		"outs\ninputs 0\n":             1,
		"t0 = 5\ninputs 0\nouts\n":     1,
		"inputs 0\nouts\nt0 = 5\n":     3,
		"inputs 0\nt0 = 5\nt0 = 5\n":   3,
		"inputs 0\nt0 = 5\ninputs 0\n": 3,
	} {
		wantNoLine(t, s, line)
	}
}

// noFirstLines are no first lines of a text.
func noFirstLines() []string {
	return []string{
		"", " ", "inputs", "inputs ", "inputs  1", " inputs 1", "inputs 1 ", "inputs 1  ", "inputs 1 1", "inputs1", "input 1", "inputs 1\r", "inputs\t1", "inputs 1\t", "Inputs 1", "INPUTS 1", "inputss 1",
		"inputs 00", "inputs 01", "inputs 064", "inputs +1", "inputs -1", "inputs -0", "inputs 1.0", "inputs 1e1", "inputs 0x1", "inputs 1_0", "inputs x1", "inputs a", "inputs 1x", "inputs \u0661", "inputs \uff11", "inputs 1\u00a0", "inputs\u00a01", "inputs 1\x00", "\xef\xbb\xbfinputs 1",
		"inputs 65", "inputs 66", "inputs 100", "inputs 640", "inputs 256", "inputs 4294967296", "inputs 9223372036854775808", "inputs 18446744073709551615", "inputs 18446744073709551616", "inputs 18446744073709551617", "inputs 340282366920938463463374607431768211457",
		"outs", "outs x0", "t0 = 5", "#", "inputs 1 #",
	}
}

func TestReadOfAnotherFirstLine(t *testing.T) {
	for _, line := range noFirstLines() {
		wantNoLine(t, line, 1)
		wantNoLine(t, line+"\n", 1)
		wantNoLine(t, line+"\nouts\n", 1)
		wantNoLine(t, line+"\nnone\nouts x9", 1)
	}
	for n := range 65 {
		wantRead(t, fmt.Sprintf("inputs %d\nouts\n", n), api.Prog{Inputs: n}, 0, api.OK)
	}
}

// noSteps are no lines of a step, with two inputs and two steps ahead.
func noSteps() []string {
	lines := []string{
		"", " ", "t2", "t2 ", "t2 =", "t2 = ", "=", "= 5", "t2 5", "t2 5 =", "t2 == 5", "t2 := 5", "t2 - 5", "t2  5",
		"t0 = 5", "t1 = 5", "t3 = 5", "t4 = 5", "t02 = 5", "t = 5", "x0 = 5", "x2 = 5", "2 = 5", "T2 = 5", "t+2 = 5", "t-2 = 5", "t2t2 = 5", "t20 = 5", "tt2 = 5", "t18446744073709551618 = 5", "t4294967298 = 5",
		" t2 = 5", "t2  = 5", "t2 =  5", "t2 = 5 ", "t2= 5", "t2 =5", "t2=5", "t2 = 5\r", "t2\t= 5", "t2 = 5\t", "t2 = 5 5", "t2 = 5 + 5", "t2 = 5 + x0", "t2 = x0 + 5", "t2 = 5 +", "t2 = + 5",
		"t2 = 00", "t2 = 05", "t2 = 018446744073709551615", "t2 = +5", "t2 = -5", "t2 = -0", "t2 = 5.", "t2 = 5.0", "t2 = 5e0", "t2 = 0x5", "t2 = 0b1", "t2 = 0o5", "t2 = 5_0", "t2 = 1_000", "t2 = a", "t2 = x", "t2 = t", "t2 = 5a", "t2 = \u0665", "t2 = \uff15", "t2 = '5'",
		"t2 = 18446744073709551616", "t2 = 18446744073709551617", "t2 = 20000000000000000000", "t2 = 99999999999999999999", "t2 = 184467440737095516150", "t2 = 36893488147419103233", "t2 = 340282366920938463463374607431768211461",
		"t2 = x0", "t2 = t0", "t2 = x0 +", "t2 = x0 + ", "t2 = x0  + x1", "t2 = x0 +  x1", "t2 = x0 + x1 ", "t2 = x0 + x1  ", "t2 =  x0 + x1", "t2 = x0 x1", "t2 = x0 x1 +", "t2 = + x0 x1", "t2 = x0+x1", "t2 = x0 +x1", "t2 = x0+ x1", "t2 = x0 + x1 + x0", "t2 = x0 + x1 x0", "t2 = (x0 + x1)", "t2 = x0 + -x1",
		"t2 = x0 + X1", "t2 = X0 + x1", "t2 = T0 + x1", "t2 = y0 + x1", "t2 = x0 + 1", "t2 = 0 + x1", "t2 = x + x1", "t2 = x0 + t", "t2 = xx0 + x1", "t2 = xt0 + x1", "t2 = x0x + x1", "t2 = x0 + x1\r", "t2 = x\u0660 + x1",
		"inputs 2", "inputs", "outs2", "out", "outss", "Outs", "OUTS", "out x0", " outs", "outs\t", "outs\r", "#", "# outs",
	}
	for _, between := range []string{"/", "%", "^", "++", "**", "+-", "=", "x", "plus", "\u00d7", "\u2212", "&", "", "*\x00", ".", ","} {
		lines = append(lines, "t2 = x0 "+between+" x1")
	}
	for _, v := range noValues() {
		lines = append(lines, "t2 = "+v+" + x1", "t2 = x1 - "+v, "t2 = "+v+" * "+v)
	}
	return lines
}

// noValues are no values, with two inputs and two steps ahead, the third one being its own.
func noValues() []string {
	return []string{"x2", "x3", "x63", "x64", "t2", "t3", "t255", "t256", "x00", "x01", "t00", "t01", "x-1", "t-1", "x+1", "t+1", "x-0", "x1.", "x0x1", "x 1", "x18446744073709551615", "x18446744073709551616", "x18446744073709551617", "t18446744073709551615", "t18446744073709551616", "t4294967296", "x9223372036854775808", "u0", "0", "1", "x", "t", "_0", "\x00"}
}

func TestReadOfALineThatIsNoStep(t *testing.T) {
	for _, line := range noSteps() {
		ahead := "inputs 2\nt0 = x0 * x1\nt1 = 5\n"
		wantNoLine(t, ahead+line, 4)
		wantNoLine(t, ahead+line+"\n", 4)
		wantNoLine(t, ahead+line+"\nouts\n", 4)
		wantNoLine(t, ahead+line+"\nnone\nouts x9", 4)
	}
}

func TestReadOfStepsOfAllValues(t *testing.T) {
	for kind, sign := range []string{"", "+", "-", "*"} {
		for a, first := range []string{"x0", "x1", "t0", "t1"} {
			for b, second := range []string{"x0", "x1", "t0", "t1"} {
				if kind > 0 {
					p := api.Prog{Inputs: 2, Ops: ops(constant(1), constant(2), step(api.OpKind(kind), a, b))}
					wantRead(t, "inputs 2\nt0 = 1\nt1 = 2\nt2 = "+first+" "+sign+" "+second+"\nouts\n", p, 0, api.OK)
				}
			}
		}
	}
	for _, c := range append(sample.Elements(api.Large), sample.Outside(api.Large)...) {
		wantRead(t, fmt.Sprintf("inputs 0\nt0 = %d\nouts t0\n", c), api.Prog{Ops: ops(constant(c)), Outs: []int{0}}, 0, api.OK)
	}
}

func TestReadOfOtherOuts(t *testing.T) {
	ahead := "inputs 2\nt0 = x0 * x1\nt1 = 5\n"
	for _, line := range []string{"outs ", "outs  ", "outs x0 ", "outs  x0", "outs x0  t0", " outs x0", "outs x0\r", "outs\tx0", "outs x0\tt0", "outs x0,t0", "outsx0", "outs x0t0", "outs outs", "outs x0 outs", "outs = x0", "outs x0 + x1", "outs 5"} {
		wantNoLine(t, ahead+line, 4)
		wantNoLine(t, ahead+line+"\n", 4)
	}
	for _, v := range noValues() {
		wantNoLine(t, ahead+"outs "+v+"\n", 4)
		wantNoLine(t, ahead+"outs x0 "+v+"\n", 4)
		wantNoLine(t, ahead+"outs "+v+" x0\n", 4)
	}
	wantNoLine(t, "inputs 0\nouts x0\n", 2)
	wantNoLine(t, "inputs 0\nouts t0\n", 2)
	wantNoLine(t, "inputs 1\nouts x1\n", 2)
	wantNoLine(t, "inputs 1\nouts t0\n", 2)
}

func TestReadAtItsLimits(t *testing.T) {
	wantNoLine(t, "inputs 65\nouts\n", 1)
	for _, inputs := range []int{0, 1, 64} {
		s := fmt.Sprintf("inputs %d\n", inputs)
		for i := range 256 {
			s += fmt.Sprintf("t%d = 7\n", i)
		}
		wantRead(t, s+"outs\n", api.Prog{Inputs: inputs, Ops: constants(256)}, 0, api.OK)
		wantNoLine(t, s, 258)
		wantNoLine(t, s+"outs", 258)
		wantNoLine(t, s+"t256 = 7\nouts\n", 258)
		wantNoLine(t, s+"t256 = t0 + t1\nouts\n", 258)
		wantNoLine(t, s+"t256 = 7\nt257 = 7\nt258 = 7\n", 258)
		wantNoLine(t, s+"outs t256\n", 258)
		wantNoLine(t, s+"outs\n\n", 259)
	}
	for n, e := range map[int]api.Errno{63: api.OK, 64: api.OK, 65: api.ErrLine, 66: api.ErrLine, 256: api.ErrLine, 100000: api.ErrLine} {
		if s := "inputs 1\nouts" + strings.Repeat(" x0", n) + "\n"; e == api.OK {
			wantRead(t, s, api.Prog{Inputs: 1, Outs: make([]int, n)}, 0, api.OK)
		} else {
			wantNoLine(t, s, 2)
		}
	}
}

// What is long ends soon, too.
func TestReadOfMuch(t *testing.T) {
	for _, piece := range []string{"\n", " ", "0", "1", "x0 ", "inputs ", "inputs 1\n", "\x00", "outs\n"} {
		much := strings.Repeat(piece, 1<<20/len(piece))
		wantReadBy(t, much)
		wantNoLine(t, "inputs "+much, 1)
		wantNoLine(t, "inputs 1\nt0 = "+much+"\nouts\n", 2)
		wantNoLine(t, "inputs 1\nt0 = 5\nouts\n"+much, 4)
	}
}

// Each byte of a text made another one, each one put into it, each one taken away.
func TestReadWithOtherBytes(t *testing.T) {
	read, refused := 0, 0
	try := func(s string) {
		t.Helper()
		if wantReadBy(t, s) {
			read++
		} else {
			refused++
		}
	}
	for _, text := range []string{
		"inputs 0\nouts\n",
		"inputs 2\nt0 = x0 * x1\nt1 = 50\nouts t1 x0\n",
		"inputs 12\nt0 = x10 - x11\nt1 = 18446744073709551615\nouts x1\n",
	} {
		for i := range len(text) + 1 {
			for c := range 256 {
				try(text[:i] + string([]byte{byte(c)}) + text[i:])
				if i < len(text) {
					try(text[:i] + string([]byte{byte(c)}) + text[i+1:])
				}
			}
			for j := i; j <= len(text); j++ {
				try(text[:i] + text[j:])
				try(text[:j] + text[i:])
			}
		}
	}
	if read < 100 || refused < 10000 {
		t.Errorf("%d were read, %d were not", read, refused)
	}
}

// Lines that were exchanged, told twice, left out.
func TestReadWithOtherLines(t *testing.T) {
	for from := range 20 {
		lines := strings.SplitAfter(textBy(sample.Prog(from, from%4, from%6, from%3)), "\n")
		for i := range lines {
			wantReadBy(t, strings.Join(slices.Delete(slices.Clone(lines), i, i+1), ""))
			for j := range lines {
				others := slices.Clone(lines)
				others[i], others[j] = others[j], others[i]
				wantReadBy(t, strings.Join(others, ""))
				wantReadBy(t, strings.Join(slices.Insert(slices.Clone(lines), i, lines[j]), ""))
			}
		}
	}
}

// The first line that is none is told, though there are others behind it.
func TestReadWithManyFaults(t *testing.T) {
	lines := strings.SplitAfter(textBy(sample.Prog(1, 3, 20, 4)), "\n")
	for i := range lines[:22] {
		for j := i; j < 22; j++ {
			others := slices.Clone(lines)
			others[i], others[j] = " "+others[i], "none\n"
			wantNoLine(t, strings.Join(others, ""), i+1)
		}
	}
}

// P9.3

// afterErrorBy is the error by the words of the chapter.
func afterErrorBy(p, q api.Prog) api.Errno {
	switch {
	case !mayBy(p) || !mayBy(q) || len(q.Outs) != p.Inputs:
		return api.ErrArg
	case len(p.Ops)+len(q.Ops) > 256:
		return api.ErrLimit
	}
	return api.OK
}

func TestAfterFaulty(t *testing.T) {
	told := map[api.Errno]int{}
	some := append(sample.Progs(), api.Prog{Inputs: 5, Ops: constants(256), Outs: sample.Inputs(5)}, api.Prog{Inputs: 1, Ops: constants(200), Outs: []int{200}}, api.Prog{Inputs: 65, Outs: make([]int, 65)}, api.Prog{Inputs: -1})
	for _, p := range append(some, sample.NoProgs()...) {
		for _, q := range some {
			for _, both := range [][2]api.Prog{{p, q}, {q, p}} {
				e := afterErrorBy(both[0], both[1])
				told[e]++
				if e != api.OK {
					wantAfter(t, both[0], both[1], api.Prog{}, e)
				}
			}
		}
	}
	if told[api.ErrArg] < 1000 || told[api.ErrLimit] < 10 || told[api.OK] < 50 {
		t.Errorf("the errors were told so often: %v", told)
	}
}

// A program that may not be, though all else fits.
func TestAfterOfNoProgram(t *testing.T) {
	for _, p := range sample.NoProgs() {
		if p.Inputs >= 0 && p.Inputs < 100 {
			wantAfter(t, p, api.Prog{Inputs: 64, Outs: make([]int, p.Inputs)}, api.Prog{}, api.ErrArg)
		}
		wantAfter(t, api.Prog{Inputs: len(p.Outs)}, p, api.Prog{}, api.ErrArg)
		// Also where there would be too many steps.
		wantAfter(t, p, api.Prog{Ops: constants(256), Outs: make([]int, max(0, min(p.Inputs, 64)))}, api.Prog{}, api.ErrArg)
		wantAfter(t, api.Prog{Inputs: len(p.Outs), Ops: constants(256)}, p, api.Prog{}, api.ErrArg)
	}
}

func TestAfterOfOnesThatDoNotFit(t *testing.T) {
	for inputs := range 65 {
		p := api.Prog{Inputs: inputs, Outs: sample.Inputs(inputs)}
		for outs := range 65 {
			q := api.Prog{Inputs: 1, Outs: make([]int, outs)}
			if inputs == outs {
				wantAfter(t, p, q, q, api.OK)
				continue
			}
			wantAfter(t, p, q, api.Prog{}, api.ErrArg)
			// Also where there would be too many steps.
			p, q := p, q
			p.Ops, q.Ops = constants(200), constants(200)
			wantAfter(t, p, q, api.Prog{}, api.ErrArg)
		}
	}
}

func TestAfterAtItsLimit(t *testing.T) {
	for _, n := range []int{0, 1, 2, 100, 128, 255, 256} {
		p := api.Prog{Inputs: 1, Ops: slices.Repeat(ops(step(api.OAdd, 0, 0)), n), Outs: []int{n}}
		for m, e := range map[int]api.Errno{255 - n: api.OK, 256 - n: api.OK, 257 - n: api.ErrLimit, 258 - n: api.ErrLimit, 256: api.ErrLimit} {
			if m < 0 || m > 256 || m == 256 && n == 0 {
				continue
			}
			q := api.Prog{Inputs: 2, Ops: constants(m), Outs: []int{1}}
			if e == api.OK {
				wantAfter(t, p, q, afterBy(p, q), api.OK)
			} else {
				wantAfter(t, p, q, api.Prog{}, api.ErrLimit)
			}
		}
	}
	most := api.Prog{Inputs: 1, Ops: constants(256), Outs: []int{256}}
	none := api.Prog{Inputs: 1, Outs: []int{0}}
	wantAfter(t, most, none, most, api.OK)
	wantAfter(t, none, most, most, api.OK)
	wantAfter(t, most, most, api.Prog{}, api.ErrLimit)
}
