package slp

import (
	"iter"
	"strconv"
	"strings"

	"conclave/api"
)

// sign is what stands between the values of a step; a constant has none.
func sign(kind api.OpKind) string {
	switch kind {
	case api.OAdd:
		return "+"
	case api.OSub:
		return "-"
	case api.OMul:
		return "*"
	}
	return ""
}

// kindOf is the kind of a step that has such a sign.
func kindOf(between string) api.OpKind {
	switch between {
	case "+":
		return api.OAdd
	case "-":
		return api.OSub
	case "*":
		return api.OMul
	}
	return api.NoOp
}

// name is how a value is written, if there are so many inputs.
func name(v, inputs int) string {
	if v < inputs {
		return "x" + strconv.Itoa(v)
	}
	return "t" + strconv.Itoa(v-inputs)
}

// maker is how that is written of which a step makes its value.
func maker(op api.Op, inputs int) string {
	if op.Kind == api.OConst {
		return strconv.FormatUint(op.C, 10)
	}
	return name(op.A, inputs) + " " + sign(op.Kind) + " " + name(op.B, inputs)
}

func Text(p api.Prog) (string, api.Errno) {
	if !May(p) {
		return "", api.ErrArg
	}
	var b strings.Builder
	b.WriteString("inputs " + strconv.Itoa(p.Inputs) + "\n")
	for i, op := range p.Ops {
		b.WriteString(name(p.Inputs+i, p.Inputs) + " = " + maker(op, p.Inputs) + "\n")
	}
	b.WriteString("outs")
	for _, out := range p.Outs {
		b.WriteString(" " + name(out, p.Inputs))
	}
	b.WriteString("\n")
	return b.String(), api.OK
}

// noLine is what a line that is none of a program's leaves by.
type noLine struct{ number int }

// lines tells the lines of a text with their numbers, each with its byte 10, so that what is left behind the last one can be told from a line.
func lines(s string) iter.Seq2[int, string] {
	return func(yield func(int, string) bool) {
		left := s
		for number := 1; left != ""; number++ {
			end := len(left)
			if at := strings.IndexByte(left, '\n'); at >= 0 {
				end = at + 1
			}
			if !yield(number, left[:end]) {
				return
			}
			left = left[end:]
		}
	}
}

// nextWord tells one word more of a line each time it is asked; it is not ok, if none is left.
type nextWord func() (word string, ok bool)

// words cuts a line at each blank. Where a blank stands at its beginning, at its end or beside another one, a word is empty, which no place takes.
func words(line string) nextWord {
	left, more := line, true
	return func() (word string, ok bool) {
		if !more {
			return "", false
		}
		word, left, more = strings.Cut(left, " ")
		return word, true
	}
}

// reading is how far a text was read: the number of the line, the program up to there, and whether its Outs were told.
type reading struct {
	line  int
	prog  api.Prog
	whole bool
}

// want leaves the line, unless it is as it must be.
func (r *reading) want(asItMust bool) {
	if !asItMust {
		panic(noLine{r.line})
	}
}

func (r *reading) wantWord(next nextWord, wanted string) {
	word, _ := next()
	r.want(word == wanted)
}

func (r *reading) wantEnd(next nextWord) {
	_, more := next()
	r.want(!more)
}

func (r *reading) number(digits string) uint64 {
	n, err := strconv.ParseUint(digits, 10, 64)
	r.want(err == nil && (digits == "0" || digits[0] != '0'))
	return n
}

// numberBelow is a number of which there are so many, from 0 on.
func (r *reading) numberBelow(digits string, count int) int {
	n := r.number(digits)
	r.want(n < uint64(count))
	return int(n)
}

func (r *reading) value(word string) int {
	if digits, ok := strings.CutPrefix(word, "x"); ok {
		return r.numberBelow(digits, r.prog.Inputs)
	}
	digits, ok := strings.CutPrefix(word, "t")
	r.want(ok)
	return r.prog.Inputs + r.numberBelow(digits, len(r.prog.Ops))
}

func (r *reading) inputs(next nextWord) {
	r.wantWord(next, "inputs")
	digits, _ := next()
	r.prog.Inputs = r.numberBelow(digits, api.MaxInputs+1)
	r.wantEnd(next)
}

// step reads what stands behind a step's own value.
func (r *reading) step(next nextWord) api.Op {
	r.wantWord(next, "=")
	first, _ := next()
	between, more := next()
	if !more {
		return api.Op{Kind: api.OConst, C: r.number(first)}
	}
	second, _ := next()
	r.wantEnd(next)
	op := api.Op{Kind: kindOf(between), A: r.value(first), B: r.value(second)}
	r.want(op.Kind != api.NoOp)
	return op
}

// outs reads what stands behind the word outs.
func (r *reading) outs(next nextWord) {
	for word, more := next(); more; word, more = next() {
		r.want(len(r.prog.Outs) < api.MaxInputs)
		r.prog.Outs = append(r.prog.Outs, r.value(word))
	}
	r.whole = true
}

func (r *reading) stepOrOuts(next nextWord) {
	first, _ := next()
	if first == "outs" {
		r.outs(next)
		return
	}
	steps := len(r.prog.Ops)
	r.want(steps < api.MaxOps && first == "t"+strconv.Itoa(steps))
	r.prog.Ops = append(r.prog.Ops, r.step(next))
}

// read leaves by a panic at the first line that is none of a program's.
func read(s string) api.Prog {
	var r reading
	for number, line := range lines(s) {
		r.line = number
		inner, ended := strings.CutSuffix(line, "\n")
		r.want(ended && !r.whole)
		if number == 1 {
			r.inputs(words(inner))
		} else {
			r.stepOrOuts(words(inner))
		}
	}
	r.line++
	r.want(r.whole)
	return r.prog
}

func Read(s string) (p api.Prog, line int, e api.Errno) {
	defer func() {
		switch left := recover().(type) {
		case nil:
		case noLine:
			p, line, e = api.Prog{}, left.number, api.ErrLine
		default:
			panic(left)
		}
	}()
	return read(s), 0, api.OK
}
