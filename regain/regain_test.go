package regain

// P18.1 to P18.3: what each call answers, and the chapter's examples.

import (
	"fmt"
	"math"
	"slices"
	"testing"

	"conclave/api"
	"conclave/interp"
	"conclave/locate"
	"conclave/plan"
	"conclave/poly"
	"conclave/sample"
)

func l(a ...uint64) []uint64 { return a }

func lists(l ...[]uint64) [][]uint64 { return l }

func at(i ...int) []int { return i }

func replies(l ...api.Reply) []api.Reply { return l }

func r(worker int, values ...uint64) api.Reply { return api.Reply{Worker: worker, Values: values} }

func same(a, b [][]uint64) bool { return slices.EqualFunc(a, b, slices.Equal[[]uint64]) }

func sameResult(a, b api.Result) bool {
	return same(a.Results, b.Results) && same(a.Polys, b.Polys) && slices.Equal(a.Wrong, b.Wrong)
}

// brief tells what may be long.
func brief(a any) string { return fmt.Sprintf("%.300s", fmt.Sprint(a)) }

// The reference: by the words of the chapter.

func needed(p api.Plan) int { return degreeOf(p) + 2*p.E + 1 }

func degreeOf(p api.Plan) int { return p.Degree * (p.K + p.T - 1) }

// pointOf is a worker's, by the words of chapter 13.
func pointOf(p api.Plan, worker int) uint64 { return uint64(p.K + p.T + worker) }

// valuesAt are what all polynomials have at one point.
func valuesAt(f api.Field, polys [][]uint64, x uint64) []uint64 {
	values := make([]uint64, len(polys))
	for i, polynomial := range polys {
		values[i], _ = poly.Eval(f, polynomial, x)
	}
	return values
}

// ofOut are the places and the values of an out.
func ofOut(p api.Plan, l []api.Reply, out int) (xs, ys []uint64) {
	for _, r := range l {
		xs, ys = append(xs, pointOf(p, r.Worker)), append(ys, r.Values[out])
	}
	return xs, ys
}

// wrongBy are the workers that have a value which does not lie on its out's polynomial.
func wrongBy(p api.Plan, polys [][]uint64, l []api.Reply) []int {
	var wrong []int
	for _, r := range l {
		if !slices.Equal(r.Values, valuesAt(p.Field, polys, pointOf(p, r.Worker))) {
			wrong = append(wrong, r.Worker)
		}
	}
	slices.Sort(wrong)
	return wrong
}

// resultBy is what is told of replies, where these are the polynomials of their outs.
func resultBy(p api.Plan, polys [][]uint64, l []api.Reply) (api.Result, api.Errno) {
	result := api.Result{Wrong: wrongBy(p, polys, l)}
	if len(result.Wrong) > p.E {
		return api.Result{}, api.ErrMany
	}
	for k := range p.K {
		result.Results = append(result.Results, valuesAt(p.Field, polys, uint64(k)))
	}
	for _, polynomial := range polys {
		result.Polys = append(result.Polys, poly.Trim(polynomial))
	}
	return result, api.OK
}

// decodeBy has the polynomials that locate tells of each out.
func decodeBy(p api.Plan, outs int, l []api.Reply) (polys [][]uint64, ok bool) {
	for out := range outs {
		xs, ys := ofOut(p, l, out)
		polynomial, _, ok, _ := locate.Decode(p.Field, xs, ys, degreeOf(p), p.E)
		if !ok {
			return nil, false
		}
		polys = append(polys, polynomial)
	}
	return polys, true
}

// searchBy has of each out the polynomial on which all but at most E of its values lie: as at least D + 1 do, it goes through some D + 1 of them.
func searchBy(p api.Plan, outs int, l []api.Reply) (polys [][]uint64, ok bool) {
next:
	for out := range outs {
		xs, ys := ofOut(p, l, out)
		for _, some := range sample.EveryChoice(len(l), degreeOf(p)+1) {
			var x, y []uint64
			for _, i := range some {
				x, y = append(x, xs[i]), append(y, ys[i])
			}
			polynomial, _ := interp.Through(p.Field, x, y)
			if on, _ := locate.Agree(p.Field, polynomial, xs, ys); on >= len(l)-p.E {
				polys = append(polys, polynomial)
				continue next
			}
		}
		return nil, false
	}
	return polys, true
}

func wantMay(t *testing.T, p api.Plan, outs int, r api.Reply, may bool) {
	t.Helper()
	if MayReply(p, outs, r) != may {
		t.Errorf("MayReply(%v, %d, %s) = %v", p, outs, brief(r), !may)
	}
}

func wantRecover(t *testing.T, p api.Plan, outs int, l []api.Reply, want api.Result, e api.Errno) {
	t.Helper()
	if result, got := Recover(p, outs, l...); !sameResult(result, want) || got != e {
		t.Errorf("Recover(%v, %d; %s) = %s, %d, not %s, %d", p, outs, brief(l), brief(result), got, brief(want), e)
	}
}

func wantMany(t *testing.T, p api.Plan, outs int, l []api.Reply) {
	t.Helper()
	wantRecover(t, p, outs, l, api.Result{}, api.ErrMany)
}

// wantTold has Recover tell of replies what these polynomials come to.
func wantTold(t *testing.T, p api.Plan, polys [][]uint64, l []api.Reply) {
	t.Helper()
	want, e := resultBy(p, polys, l)
	wantRecover(t, p, len(polys), l, want, e)
}

// wantBy has Recover tell what the polynomials come to that are found, or ErrMany; it tells which.
func wantBy(t *testing.T, find func(p api.Plan, outs int, l []api.Reply) ([][]uint64, bool), p api.Plan, outs int, l []api.Reply) api.Errno {
	t.Helper()
	polys, ok := find(p, outs, l)
	if !ok {
		wantMany(t, p, outs, l)
		return api.ErrMany
	}
	want, e := resultBy(p, polys, l)
	wantRecover(t, p, outs, l, want, e)
	return e
}

func wantCheck(t *testing.T, p api.Plan, result api.Result, worker int, values []uint64, right bool, e api.Errno) {
	t.Helper()
	if is, got := Check(p, result, worker, values); is != right || got != e {
		t.Errorf("Check(%v, %s, %d, %s) = %v, %d, not %v, %d", p, brief(result), worker, sample.Brief(values), is, got, right, e)
	}
}

// enough tells whether all workers together are as many as the plan needs.
func enough(p api.Plan) bool { return needed(p) <= p.N }

// few are plans of few workers, with one and several data blocks, with and without pads, each with all E and degrees for which there are enough workers.
func few() []api.Plan {
	var plans []api.Plan
	for _, f := range sample.Fields() {
		for n := 1; n <= 6; n++ {
			for k := 1; k <= 3; k++ {
				for pads := range 3 {
					for wrong := range 3 {
						for degree := range 3 {
							if p := sample.With(sample.Plan(n, k, pads, 0, wrong, degree), f, 1+n%3); enough(p) {
								plans = append(plans, p)
							}
						}
					}
				}
			}
		}
	}
	return plans
}

// many are plans of more workers, up to all that there may be; some are not accepted for S alone, of which nothing hangs here.
func many() []api.Plan {
	var plans []api.Plan
	for _, f := range sample.Fields() {
		for _, p := range []api.Plan{
			sample.Plan(11, 3, 1, 0, 2, 2), sample.Plan(12, 3, 1, 1, 2, 2), sample.Plan(13, 3, 1, 64, 2, 2), sample.Plan(20, 1, 3, 0, 5, 3), sample.Plan(30, 5, 0, 0, 7, 3),
			sample.Plan(64, 64, 0, 0, 0, 1), sample.Plan(64, 1, 63, 0, 0, 1), sample.Plan(64, 32, 0, 0, 16, 1), sample.Plan(64, 1, 0, 1, 31, 1024), sample.Plan(64, 2, 0, 0, 0, 63), sample.Plan(64, 30, 10, 0, 30, 0),
		} {
			plans = append(plans, sample.With(p, f, 2))
		}
	}
	return plans
}

// counts are how many replies there may be: just as many as the plan needs, one more, all workers'.
func counts(p api.Plan) []int {
	n := needed(p)
	return slices.Compact([]int{n, min(n+1, p.N), p.N})
}

// lines are polynomials of at most the plan's degree, one for each out: as high as may be, of no order, 0, single elements, with noughts at their front and end.
func lines(p api.Plan, outs, from int) [][]uint64 {
	f, n := p.Field, degreeOf(p)+1
	top := sample.Prime(f) - 1
	polys := make([][]uint64, outs)
	for out := range polys {
		kinds := lists(sample.Run(f, from+5*out, n), nil, sample.Power(n-1), l(top), sample.Padded(sample.Run(f, from+out, n/2), n), slices.Repeat(l(top), n), make([]uint64, n))
		polys[out] = kinds[(from+out)%len(kinds)]
	}
	return polys
}

// on are the replies of some workers that lie on the polynomials.
func on(p api.Plan, polys [][]uint64, who []int) []api.Reply {
	l := make([]api.Reply, len(who))
	for i, worker := range who {
		l[i] = r(worker, valuesAt(p.Field, polys, pointOf(p, worker))...)
	}
	return l
}

func copied(l []api.Reply) []api.Reply {
	l = slices.Clone(l)
	for i := range l {
		l[i].Values = slices.Clone(l[i].Values)
	}
	return l
}

// otherThan is 0, the greatest element or some other one, but not a.
func otherThan(f api.Field, a uint64, from int) uint64 {
	others := append(l(0, sample.Prime(f)-1), sample.Run(f, from, 2)...)
	for others[from%4] == a {
		from++
	}
	return others[from%4]
}

// turned is the replies with other values in an out, where these stand in the list.
func turned(p api.Plan, l []api.Reply, out int, places ...int) []api.Reply {
	l = copied(l)
	for i, place := range places {
		l[place].Values[out] = otherThan(p.Field, l[place].Values[out], i+out)
	}
	return l
}

// turnedInAll has other values in all outs.
func turnedInAll(p api.Plan, l []api.Reply, places ...int) []api.Reply {
	for out := range l[0].Values {
		l = turned(p, l, out, places...)
	}
	return l
}

// turnedInTurn has one other value at each place, in the first out, the next one, and so on.
func turnedInTurn(p api.Plan, l []api.Reply, places ...int) []api.Reply {
	for i, place := range places {
		l = turned(p, l, i%len(l[0].Values), place)
	}
	return l
}

// everywhere does it with all plans, with one out and several, with replies of as many workers as counts says, the first, the last and others, in all kinds of orders, all of which lie on some polynomials; with the larger plans the orders take turns.
func everywhere(do func(p api.Plan, polys [][]uint64, l []api.Reply)) {
	for i, p := range append(few(), many()...) {
		for _, outs := range []int{1, 2 + i%3} {
			polys := lines(p, outs, i)
			for j, n := range counts(p) {
				orders := sample.SomeChoices(p.N, n)[:5]
				if p.N > 6 {
					turn := (i + j + outs) % 5
					orders = orders[turn : turn+1]
				}
				for _, who := range orders {
					do(p, polys, on(p, polys, who))
				}
			}
		}
	}
}

// P18.1

// mayBy is by the words of the chapter.
func mayBy(p api.Plan, outs int, r api.Reply) bool {
	if !plan.May(p) || outs < 0 || outs > 64 || len(r.Values) != outs {
		return false
	}
	outside := slices.ContainsFunc(r.Values, func(a uint64) bool { return a >= sample.Prime(p.Field) })
	return r.Worker >= 0 && r.Worker < p.N && !outside
}

func TestMayReply(t *testing.T) {
	told := map[bool]int{}
	for _, p := range slices.Concat(few(), sample.Plans(), sample.NoPlans()) {
		workers := append(sample.NoWorkers(p), 0, p.N-1, p.N/2)
		for _, outs := range []int{math.MinInt, -1, 0, 1, 2, 63, 64, 65, math.MaxInt} {
			for _, values := range lists(nil, l(0), l(sample.Prime(api.Small)), l(5, sample.Prime(api.Small)-1), l(0, math.MaxUint64), make([]uint64, 63), make([]uint64, 64), make([]uint64, 65)) {
				for _, worker := range workers {
					reply := r(worker, values...)
					told[mayBy(p, outs, reply)]++
					wantMay(t, p, outs, reply, mayBy(p, outs, reply))
				}
			}
		}
	}
	if told[true] < 1000 || told[false] < 1000 {
		t.Errorf("told so often: %v", told)
	}
}

func TestMayReplyByHand(t *testing.T) {
	for _, f := range sample.Fields() {
		prime := sample.Prime(f)
		p := sample.With(sample.Plan(5, 2, 1, 0, 1, 1), f, 3)
		for worker, may := range map[int]bool{-1: false, 0: true, 4: true, 5: false, 6: false, math.MinInt: false, math.MaxInt: false} {
			wantMay(t, p, 1, r(worker, 7), may)
			wantMay(t, p, 0, r(worker), may)
		}
		for a, may := range map[uint64]bool{0: true, prime - 1: true, prime: false, prime + 1: false, math.MaxUint64: false} {
			wantMay(t, p, 1, r(0, a), may)
			for i := range 64 {
				values := sample.Run(f, 1, 64)
				values[i] = a
				wantMay(t, p, 64, r(4, values...), may)
				wantMay(t, p, 63, r(4, values...), false)
			}
		}
		// As many values as outs, neither more nor fewer, nor as many as the plan's Width.
		for outs := range 66 {
			for n := range 67 {
				wantMay(t, p, outs, r(2, sample.Run(f, 4, n)...), n == outs && n < 65)
			}
		}
		for _, outs := range []int{-1, -64, math.MinInt, 65, 4096, math.MaxInt} {
			wantMay(t, p, outs, r(2), false)
		}
		// Far too many.
		wantMay(t, p, 4097, r(2, make([]uint64, 4097)...), false)
		wantMay(t, p, 64, r(2, make([]uint64, 5000)...), false)
	}
	p := sample.Plan(64, 2, 1, 0, 1, 1)
	wantMay(t, p, 1, r(63, 1), true)
	wantMay(t, p, 1, r(64, 1), false)
	// What is no element of the one field may be one of the other.
	wantMay(t, p, 1, r(0, 2013265921), false)
	wantMay(t, sample.With(p, api.Large, 1), 1, r(0, 2013265921), true)
	// Whether the plan is accepted is not asked.
	wantMay(t, sample.Plan(1, 32, 32, 64, 64, 1024), 1, r(0, 1), true)
}

// P18.2

func TestRecoverWhereNoneIsWrong(t *testing.T) {
	everywhere(func(p api.Plan, polys [][]uint64, l []api.Reply) {
		wantTold(t, p, polys, l)
		if result, _ := Recover(p, len(polys), l...); len(result.Wrong) > 0 {
			t.Errorf("%v: %v are wrong", p, result.Wrong)
		}
	})
}

// Just E workers, and each number of fewer: the first, the last, others; in one out, in all, in turn.
func TestRecoverWhereUpToEAreWrong(t *testing.T) {
	told := 0
	everywhere(func(p api.Plan, polys [][]uint64, l []api.Reply) {
		outs := len(polys)
		for wrong := 1; wrong <= p.E; wrong++ {
			if wrong > 2 && wrong < p.E {
				continue
			}
			for _, places := range sample.SomeChoices(len(l), wrong)[:4] {
				for _, l := range [][]api.Reply{turned(p, l, 0, places...), turned(p, l, outs-1, places...), turnedInAll(p, l, places...), turnedInTurn(p, l, places...)} {
					if len(wrongBy(p, polys, l)) != wrong {
						t.Fatalf("%v, %s: %d are wrong", p, brief(l), wrongBy(p, polys, l))
					}
					wantTold(t, p, polys, l)
					told++
				}
			}
		}
	})
	if told < 2000 {
		t.Errorf("only %d were asked", told)
	}
}

// One more than E, where there is a reply to spare: no other polynomial has all but E of the values. In one out, in the last one, in all.
func TestRecoverWhereOneMoreIsWrong(t *testing.T) {
	told := 0
	everywhere(func(p api.Plan, polys [][]uint64, l []api.Reply) {
		if len(l) <= needed(p) {
			return
		}
		for _, places := range sample.SomeChoices(len(l), p.E+1)[:4] {
			wantMany(t, p, len(polys), turned(p, l, 0, places...))
			wantMany(t, p, len(polys), turned(p, l, len(polys)-1, places...))
			wantMany(t, p, len(polys), turnedInAll(p, l, places...))
			told++
		}
	})
	if told < 500 {
		t.Errorf("only %d were asked", told)
	}
}

// In each out no more than E are wrong, and all together are one more: ErrMany, also where just as many replies are there as are needed.
func TestRecoverWhereTogetherMoreAreWrong(t *testing.T) {
	told := 0
	everywhere(func(p api.Plan, polys [][]uint64, l []api.Reply) {
		outs := len(polys)
		if p.E == 0 || outs == 1 {
			return
		}
		for _, places := range sample.SomeChoices(len(l), p.E+1)[:4] {
			for _, cut := range []int{1, p.E} {
				wantMany(t, p, outs, turned(p, turned(p, l, 0, places[:cut]...), outs-1, places[cut:]...))
				wantMany(t, p, outs, turned(p, turned(p, l, outs-1, places[:cut]...), 0, places[cut:]...))
			}
			// Of these one worker is wrong twice: they are E.
			l := turned(p, turned(p, l, 0, places[:p.E]...), outs-1, places[:p.E]...)
			wantTold(t, p, polys, l)
			told++
		}
	})
	if told < 200 {
		t.Errorf("only %d were asked", told)
	}
}

// One wrong worker more in each out than in the one ahead of it: E of them, and one more, in the last out of many.
func TestRecoverWhereOutsAddUp(t *testing.T) {
	for _, f := range sample.Fields() {
		for wrong := range 5 {
			p := sample.With(sample.Plan(16, 3, 1, 0, wrong, 2), f, 1)
			polys := lines(p, 64, 3)
			for _, order := range [][]int{sample.Inputs(16), sample.Mixed(2, 16)} {
				l := on(p, polys, order)
				for i := range wrong {
					l = turned(p, l, 10*i, i)
				}
				wantTold(t, p, polys, l)
				wantMany(t, p, 64, turned(p, l, 63, 15))
				if wrong > 0 {
					wantTold(t, p, polys, turned(p, l, 63, wrong-1))
				}
			}
		}
	}
}

// Without an E all values count; of just as many as are needed any go through, whatever they are.
func TestRecoverWithoutE(t *testing.T) {
	for _, f := range sample.Fields() {
		p := sample.With(sample.Plan(5, 2, 1, 0, 0, 1), f, 1)
		polys := lists(l(5, 2), l(0, 0, 4), nil)
		all := on(p, polys, sample.Inputs(5))
		wantTold(t, p, polys, all)
		for i := range 5 {
			for out := range 3 {
				wantMany(t, p, 3, turned(p, all, out, i))
			}
		}
		for _, who := range sample.EveryChoice(5, 3) {
			l := turned(p, on(p, polys, who), 1, 0)
			if e := wantBy(t, decodeBy, p, 3, l); e != api.OK {
				t.Errorf("of %v: %d", who, e)
			}
		}
	}
}

// Whatever the values are, what locate tells of each out is told.
func TestRecoverIsDecode(t *testing.T) {
	told := map[api.Errno]int{}
	everywhere(func(p api.Plan, polys [][]uint64, l []api.Reply) {
		for from, n := range []int{0, p.E, p.E + 1, p.E + 2, len(l)} {
			places := sample.Mixed(from, len(l))[:min(n, len(l))]
			told[wantBy(t, decodeBy, p, len(polys), turnedInAll(p, l, places...))]++
			told[wantBy(t, decodeBy, p, len(polys), turnedInTurn(p, l, places...))]++
			// Values without any order at all.
			free := copied(l)
			for i := range free {
				free[i].Values = sample.Run(p.Field, from+i, len(polys))
			}
			told[wantBy(t, decodeBy, p, len(polys), free)]++
		}
	})
	if told[api.OK] < 1000 || told[api.ErrMany] < 1000 {
		t.Errorf("the errors were told so often: %v", told)
	}
}

// rowsOf are all lists of n of the numbers.
func rowsOf(numbers []uint64, n int) [][]uint64 {
	if n == 0 {
		return lists(nil)
	}
	var all [][]uint64
	for _, ahead := range rowsOf(numbers, n-1) {
		for _, a := range numbers {
			all = append(all, append(slices.Clone(ahead), a))
		}
	}
	return all
}

// Where all values are 0 or 1, many of them lie on one polynomial or nearly so: all replies of few workers with one out and with two.
func TestRecoverOfAllFewValues(t *testing.T) {
	told := map[api.Errno]int{}
	for _, p := range few() {
		if p.N > 5 || p.N == 5 && p.K+p.T > 2 {
			continue
		}
		ones := rowsOf(l(0, 1), p.N)
		for i, first := range ones {
			var single, double []api.Reply
			second := ones[(5*i+p.K)%len(ones)]
			for worker := range p.N {
				single = append(single, r(worker, first[worker]))
				double = append(double, r(worker, first[worker], second[worker]))
			}
			told[wantBy(t, searchBy, p, 1, single)]++
			told[wantBy(t, searchBy, p, 2, double)]++
		}
	}
	if told[api.OK] < 300 || told[api.ErrMany] < 300 {
		t.Errorf("the errors were told so often: %v", told)
	}
}

// Outs from 0 to as many as there may be.
func TestRecoverOfAllOuts(t *testing.T) {
	for _, f := range sample.Fields() {
		p := sample.With(sample.Plan(7, 2, 1, 0, 2, 1), f, 1)
		for outs := range 65 {
			polys := lines(p, outs, outs)
			l := on(p, polys, at(6, 2, 3, 1, 0, 4, 5))
			wantTold(t, p, polys, l)
			if outs > 0 {
				wantTold(t, p, polys, turnedInTurn(p, l, 0, 4))
				wantTold(t, p, polys, turned(p, l, outs-1, 5, 6))
				wantMany(t, p, outs, turned(p, l, outs-1, 4, 5, 6))
			}
		}
	}
}

// Without outs there is nothing that could be wrong: the Results are without elements, one for each data block.
func TestRecoverWithoutOuts(t *testing.T) {
	for _, p := range append(few(), many()...) {
		for _, n := range counts(p) {
			for _, none := range lists(nil, l()) {
				var all []api.Reply
				for _, worker := range sample.Mixed(1, p.N)[:n] {
					all = append(all, r(worker, none...))
				}
				wantRecover(t, p, 0, all, api.Result{Results: make([][]uint64, p.K)}, api.OK)
			}
		}
	}
}

// As many workers, outs and data blocks as there may be.
func TestRecoverAtTheLimits(t *testing.T) {
	for _, f := range sample.Fields() {
		for _, p := range []api.Plan{sample.Plan(64, 64, 0, 0, 0, 1), sample.Plan(64, 1, 63, 0, 0, 1), sample.Plan(64, 20, 12, 0, 16, 1), sample.Plan(64, 1, 0, 0, 31, 1024)} {
			p = sample.With(p, f, 64)
			polys := lines(p, 64, 1)
			l := on(p, polys, sample.Mixed(3, 64))
			wantTold(t, p, polys, l)
			if p.E > 0 {
				wantTold(t, p, polys, turnedInTurn(p, l, sample.Mixed(4, 64)[:p.E]...))
				wantTold(t, p, polys, turnedInAll(p, l, sample.Mixed(5, 64)[:p.E]...))
				wantMany(t, p, 64, turnedInTurn(p, l, sample.Mixed(4, 64)[:p.E+1]...))
			}
		}
	}
}

// Polynomials come trimmed, of whatever degree they are.
func TestRecoverTrims(t *testing.T) {
	for _, f := range sample.Fields() {
		top := sample.Prime(f) - 1
		p := sample.With(sample.Plan(11, 2, 2, 0, 1, 2), f, 1)
		for _, c := range []struct{ handed, told []uint64 }{
			{nil, nil}, {l(0), nil}, {make([]uint64, 7), nil}, {l(4), l(4)}, {l(top, 0, 0), l(top)}, {l(0, 1), l(0, 1)}, {l(0, 0, top, 0, 0), l(0, 0, top)}, {l(1, 2, 3, 4, 5, 6, 7), l(1, 2, 3, 4, 5, 6, 7)}, {sample.Power(6), sample.Power(6)},
		} {
			all := on(p, lists(c.handed, l(1)), sample.Inputs(11))
			for _, l := range [][]api.Reply{all, turned(p, all, 0, 0), turned(p, all, 0, 10)} {
				if result, e := Recover(p, 2, l...); e != api.OK || !same(result.Polys, lists(c.told, []uint64{1})) {
					t.Errorf("field %d, %v: %v, %d", f, c.handed, result.Polys, e)
				}
			}
		}
		// One of a degree past the plan's is none.
		wantMany(t, p, 1, on(p, lists(sample.Power(7)), sample.Inputs(11)))
	}
}

func TestRecoverByHand(t *testing.T) {
	for _, f := range sample.Fields() {
		top := sample.Prime(f) - 1
		told := func(results, polys [][]uint64, wrong ...int) api.Result {
			return api.Result{Results: results, Polys: polys, Wrong: wrong}
		}
		// One worker alone: what it says is so.
		p := sample.With(sample.Plan(1, 1, 0, 0, 0, 1024), f, 1)
		wantRecover(t, p, 1, replies(r(0, top)), told(lists(l(top)), lists(l(top))), api.OK)
		wantRecover(t, p, 3, replies(r(0, 0, 4, top)), told(lists(l(0, 4, top)), lists(nil, l(4), l(top))), api.OK)
		// Three of whom one may lie: what two of them say.
		p = sample.With(sample.Plan(3, 2, 0, 0, 1, 0), f, 1)
		wantRecover(t, p, 1, replies(r(2, 7), r(0, 9), r(1, 7)), told(lists(l(7), l(7)), lists(l(7)), 0), api.OK)
		wantRecover(t, p, 1, replies(r(2, 0), r(0, 9), r(1, 9)), told(lists(l(9), l(9)), lists(l(9)), 2), api.OK)
		wantRecover(t, p, 1, replies(r(2, 0), r(0, 0), r(1, top)), told(lists(l(0), l(0)), lists(nil), 1), api.OK)
		wantMany(t, p, 1, replies(r(2, 7), r(0, 8), r(1, 9)))
		wantRecover(t, p, 2, replies(r(2, 7, 1), r(0, 8, 2), r(1, 7, 1)), told(lists(l(7, 1), l(7, 1)), lists(l(7), l(1)), 0), api.OK)
		wantMany(t, p, 2, replies(r(2, 7, 3), r(0, 8, 2), r(1, 7, 2)))
		// One less x, at the points 2, 3, 4, is 0 less 1, 2, 3; at 0 and 1 it is 1 and 0.
		p = sample.With(sample.Plan(3, 2, 0, 0, 0, 1), f, 1)
		wantRecover(t, p, 1, replies(r(0, top), r(1, top-1), r(2, top-2)), told(lists(l(1), l(0)), lists(l(1, top))), api.OK)
		wantRecover(t, p, 1, replies(r(2, top-2), r(0, top)), told(lists(l(1), l(0)), lists(l(1, top))), api.OK)
		wantMany(t, p, 1, replies(r(0, top), r(1, top-1), r(2, top)))
		// x and its square, at the points 3 to 10; the worker 5 is silent, the last two are wrong, each in another out.
		p = sample.With(sample.Plan(8, 1, 2, 0, 2, 1), f, 1)
		wantRecover(t, p, 2, replies(r(0, 3, 9), r(1, 4, 16), r(2, 5, 25), r(3, 6, 36), r(4, 7, 49), r(6, 9, 80), r(7, 9, 100)), told(lists(l(0, 0)), lists(l(0, 1), l(0, 0, 1)), 6, 7), api.OK)
	}
}

// More than E lie, and what they say lies on another polynomial, as do enough of the honest values: that one is told, since all but E of the values lie on it.
func TestRecoverAnother(t *testing.T) {
	for _, f := range sample.Fields() {
		p := sample.With(sample.Plan(5, 2, 1, 0, 1, 1), f, 1)
		// 5 and 2 x meets 1 and 3 x at 4, the point of the worker 1.
		other := lists(l(1, 3))
		all := on(p, lists(l(5, 2)), sample.Inputs(5))
		for _, worker := range at(0, 2, 3) {
			all[worker] = on(p, other, at(worker))[0]
		}
		wantTold(t, p, other, all)
		if result, e := Recover(p, 1, all...); e != api.OK || !slices.Equal(result.Wrong, at(4)) {
			t.Errorf("field %d: %v, %d", f, result, e)
		}
	}
}

// P18.3

// checkBy is whether the values are those of the polynomials at the worker's point.
func checkBy(p api.Plan, polys [][]uint64, worker int, values []uint64) bool {
	return slices.Equal(values, valuesAt(p.Field, polys, pointOf(p, worker)))
}

func TestCheck(t *testing.T) {
	for _, p := range append(few(), sample.Plans()...) {
		for _, polys := range [][][]uint64{nil, sample.Polys(p.Field), lists(nil), lists(l(0, 0)), lists(l(7)), lists(sample.Run(p.Field, 2, 90), nil, l(1, 1))} {
			result := api.Result{Polys: polys}
			for _, worker := range at(0, p.N/2, p.N-1) {
				values := valuesAt(p.Field, polys, pointOf(p, worker))
				wantCheck(t, p, result, worker, values, true, api.OK)
				for i := range values {
					other := slices.Clone(values)
					other[i] = otherThan(p.Field, values[i], i)
					wantCheck(t, p, result, worker, other, false, api.OK)
				}
				// At another worker's point, or at a data block's, the same ones may be right or not.
				for _, x := range l(0, pointOf(p, 0), pointOf(p, p.N-1)-1) {
					values := valuesAt(p.Field, polys, x)
					wantCheck(t, p, result, worker, values, checkBy(p, polys, worker, values), api.OK)
				}
			}
		}
	}
}

// All replies are right but those of the wrong workers, in each out.
func TestCheckOfWhatIsRecovered(t *testing.T) {
	asked := 0
	everywhere(func(p api.Plan, polys [][]uint64, l []api.Reply) {
		l = turnedInTurn(p, l, sample.Mixed(2, len(l))[:p.E]...)
		result, e := Recover(p, len(polys), l...)
		if e != api.OK {
			t.Fatalf("Recover(%v, %s): %d", p, brief(l), e)
		}
		for _, r := range l {
			wantCheck(t, p, result, r.Worker, r.Values, !slices.Contains(result.Wrong, r.Worker), api.OK)
			asked++
		}
	})
	if asked < 5000 {
		t.Errorf("only %d were asked", asked)
	}
}

// Lists of as many elements as there may be, and of any number of them; noughts at their ends count for nothing; nor are Results and Wrong looked at.
func TestCheckAtTheLimits(t *testing.T) {
	for _, p := range []api.Plan{sample.Plan(5, 2, 1, 0, 1, 1), sample.With(sample.Plan(64, 60, 4, 64, 64, 1024), api.Large, 64)} {
		f := p.Field
		for _, polys := range [][][]uint64{lists(make([]uint64, 4096)), lists(sample.Power(4095), l(5)), lists(l(2), sample.Run(f, 3, 4096)), lists(sample.Padded(l(3, 1), 4096)), slices.Repeat(lists(l(1, 1), nil), 100)} {
			for worker := range p.N {
				values := valuesAt(f, polys, pointOf(p, worker))
				for _, result := range []api.Result{
					{Polys: polys}, {Polys: polys, Wrong: at(worker)}, {Polys: polys, Wrong: at(-1, 99), Results: lists(l(math.MaxUint64), make([]uint64, 4097))},
				} {
					wantCheck(t, p, result, worker, values, true, api.OK)
					other := slices.Clone(values)
					other[len(other)-1] = otherThan(f, other[len(other)-1], worker)
					wantCheck(t, p, result, worker, other, false, api.OK)
				}
			}
		}
	}
}

// The examples of the chapter.
func TestExamples(t *testing.T) {
	p := sample.Plan(5, 2, 1, 0, 1, 1)
	told := api.Result{Results: lists(l(5), l(7)), Polys: lists(l(5, 2))}
	wantRecover(t, p, 1, replies(r(0, 11), r(1, 13), r(2, 15), r(3, 17), r(4, 19)), told, api.OK)
	told.Wrong = at(2)
	wantRecover(t, p, 1, replies(r(4, 19), r(1, 13), r(2, 99), r(3, 17), r(0, 11)), told, api.OK)
	wantMany(t, p, 1, replies(r(0, 11), r(1, 0), r(2, 99), r(3, 17), r(4, 19)))
	wantRecover(t, p, 1, replies(r(0, 11)), api.Result{}, api.ErrShort)
	wantRecover(t, p, 0, replies(r(0), r(1), r(2), r(3), r(4)), api.Result{Results: lists(nil, nil)}, api.OK)
	wantRecover(t, p, 1, replies(r(0, 11), r(0, 11)), api.Result{}, api.ErrTwice)
	wantRecover(t, p, 1, replies(r(5, 1)), api.Result{}, api.ErrArg)
	wantRecover(t, p, 1, replies(r(0, 11, 13)), api.Result{}, api.ErrArg)
}
