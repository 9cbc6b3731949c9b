package sample

import (
	"math"
	"slices"

	"conclave/api"
)

func Kinds() []api.MsgKind { return []api.MsgKind{api.MShare, api.MReply} }

// NoKinds are numbers that stand for no kind of messages.
func NoKinds() []api.MsgKind { return []api.MsgKind{api.NoMsg, 3, 4, 128, 255} }

// Below are numbers of which there are so many, from 0 on: the least and the greatest ones, one within, and those at which bytes end.
func Below(count int) []int {
	l := []int{0, 1, count / 2, count - 2, count - 1}
	for _, n := range []int{255, 256, 257, 65279, 65280} {
		if n < count {
			l = append(l, n)
		}
	}
	return l
}

// NotBelow are numbers past those of which there are so many, and below them: next to them, with bits that a word, a byte or a sign would lose, and as far from them as an int can be.
func NotBelow(count int) []int {
	return []int{-1, -2, -count, math.MinInt, math.MinInt + 1, count, count + 1, 2 * count, 1 << 31, 1<<31 + 1, 1 << 32, 1<<32 + 1, math.MaxInt - 1, math.MaxInt}
}

// Values are lists of elements that a message may have: none, one, some, and just as many as there may be.
func Values(f api.Field) [][]uint64 {
	top := Prime(f) - 1
	return [][]uint64{
		nil, {}, {0}, {5}, {top}, {0, 0}, {top, 0}, {1, 2, 3}, {0, top, 1, top},
		Edges(f)[:17], Run(f, 3, api.MaxInputs-1), Scattered(f, api.MaxInputs),
		make([]uint64, api.MaxInputs), slices.Repeat([]uint64{top}, api.MaxInputs),
	}
}

// NoValues are lists that no message may have: with what is no element, or with too many.
func NoValues(f api.Field) [][]uint64 {
	var l [][]uint64
	for _, a := range Outside(f) {
		l = append(l, []uint64{a}, []uint64{a, 0}, []uint64{0, 1, a}, append(Run(f, 1, api.MaxInputs-1), a))
	}
	for _, n := range []int{1, 2, api.MaxInputs, api.MaxPoly - api.MaxInputs, api.MaxPoly - api.MaxInputs + 1, api.MaxPoly} {
		l = append(l, make([]uint64, api.MaxInputs+n), Run(f, n, api.MaxInputs+n))
	}
	return l
}

// Msgs are messages that may be: of both kinds and fields, each list of Values with numbers of rounds and of workers at both ends and within.
func Msgs() []api.Msg {
	var all []api.Msg
	for _, f := range Fields() {
		for _, values := range Values(f) {
			for _, round := range Below(api.MaxRounds) {
				for _, worker := range Below(api.MaxNodes) {
					for _, kind := range Kinds() {
						all = append(all, api.Msg{Kind: kind, Round: round, Worker: worker, Field: f, Values: slices.Clone(values)})
					}
				}
			}
		}
	}
	return all
}

// NoMsgs are messages that may not be, each with one fault alone.
func NoMsgs() []api.Msg {
	var all []api.Msg
	with := func(good api.Msg, turn func(m *api.Msg)) {
		good.Values = slices.Clone(good.Values)
		turn(&good)
		all = append(all, good)
	}
	for _, f := range Fields() {
		for i := range 4 {
			good := api.Msg{Kind: Kinds()[i%2], Round: i * 21845, Worker: i * 21, Field: f, Values: Run(f, i, 3*i)}
			for _, k := range NoKinds() {
				with(good, func(m *api.Msg) { m.Kind = k })
			}
			for _, n := range NotBelow(api.MaxRounds) {
				with(good, func(m *api.Msg) { m.Round = n })
			}
			for _, n := range NotBelow(api.MaxNodes) {
				with(good, func(m *api.Msg) { m.Worker = n })
			}
			for _, g := range NoFields() {
				with(good, func(m *api.Msg) { m.Field = g })
			}
			for _, values := range NoValues(f) {
				with(good, func(m *api.Msg) { m.Values = values })
			}
		}
	}
	return all
}

// Variants are messages beside m, which may be as m may: each of another kind, round, worker, field or number of Values, or of several of these.
func Variants(m api.Msg) []api.Msg {
	var all []api.Msg
	with := func(turn func(v *api.Msg)) {
		v := m
		v.Values = slices.Clone(m.Values)
		turn(&v)
		all = append(all, v)
	}
	kind, field := api.MShare+api.MReply-m.Kind, api.Small+api.Large-m.Field
	round, worker := (m.Round+1)%api.MaxRounds, (m.Worker+1)%api.MaxNodes
	// Elements of Small are ones of Large, too.
	inBoth, inOther := Run(api.Small, 3, len(m.Values)), Run(field, 3, (len(m.Values)+1)%(api.MaxInputs+1))
	with(func(v *api.Msg) { v.Kind = kind })
	for _, n := range append(Below(api.MaxRounds), round, m.Round^1, m.Round^256) {
		if n != m.Round {
			with(func(v *api.Msg) { v.Round = n })
		}
	}
	for n := range api.MaxNodes {
		if n != m.Worker {
			with(func(v *api.Msg) { v.Worker = n })
		}
	}
	with(func(v *api.Msg) { v.Field, v.Values = field, inBoth })
	for n := range api.MaxInputs + 1 {
		if n != len(m.Values) {
			with(func(v *api.Msg) { v.Values = Run(m.Field, 5, n) })
		}
	}
	with(func(v *api.Msg) { v.Kind, v.Worker = kind, worker })
	with(func(v *api.Msg) { v.Kind, v.Values = kind, nil })
	with(func(v *api.Msg) { v.Worker, v.Field, v.Values = worker, field, inBoth })
	with(func(v *api.Msg) { v.Field, v.Values = field, inOther })
	with(func(v *api.Msg) { v.Round, v.Worker = round, worker })
	with(func(v *api.Msg) { v.Kind, v.Worker, v.Field, v.Values = kind, worker, field, inOther })
	every := api.Msg{Kind: kind, Round: round, Worker: worker, Field: field, Values: inOther}
	with(func(v *api.Msg) { *v = every })
	return all
}
