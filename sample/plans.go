package sample

import (
	"math"

	"conclave/api"
)

// Plan is one of the field Small with a Width of 1, its numbers in the order in which the chapters write them.
func Plan(n, k, t, s, e, degree int) api.Plan {
	return api.Plan{Field: api.Small, N: n, K: k, T: t, S: s, E: e, Degree: degree, Width: 1}
}

// With is p with another field and Width.
func With(p api.Plan, f api.Field, width int) api.Plan {
	p.Field, p.Width = f, width
	return p
}

// PlanNumbers are all numbers of a plan, to be looked at or changed.
func PlanNumbers(p *api.Plan) []*int {
	return []*int{&p.N, &p.K, &p.T, &p.S, &p.E, &p.Degree, &p.Width}
}

// Plans are plans that may be, of both fields: ordinary ones, accepted or not, and ones with the least and the greatest numbers that there may be.
func Plans() []api.Plan {
	var l []api.Plan
	for _, f := range Fields() {
		for _, p := range []api.Plan{
			Plan(1, 1, 0, 0, 0, 0), Plan(1, 1, 0, 0, 0, 1024), Plan(4, 2, 1, 0, 0, 1), Plan(5, 2, 1, 0, 1, 1),
			Plan(9, 3, 1, 0, 2, 2), Plan(11, 3, 1, 0, 2, 2), Plan(11, 3, 1, 1, 2, 2), Plan(12, 3, 1, 1, 2, 2),
			Plan(1, 64, 0, 0, 0, 0), Plan(1, 1, 63, 0, 0, 0), Plan(64, 64, 0, 0, 0, 1), Plan(64, 1, 63, 0, 0, 1), Plan(64, 32, 32, 0, 0, 1),
			Plan(64, 1, 0, 63, 0, 5), Plan(64, 1, 0, 64, 0, 5), Plan(63, 1, 0, 0, 31, 5), Plan(64, 1, 0, 1, 31, 5), Plan(64, 1, 0, 0, 64, 5),
			Plan(64, 2, 0, 0, 0, 63), Plan(64, 2, 0, 0, 0, 64), Plan(64, 64, 0, 64, 64, 1024), Plan(1, 1, 63, 64, 64, 1024),
		} {
			p.Field = f
			l = append(l, p)
			p.Width = 64
			l = append(l, p)
			p.Width = 3
			l = append(l, p)
		}
	}
	return l
}

// NoPlans are plans that may not be: for one number, for the field, for K and T together, for all of it.
func NoPlans() []api.Plan {
	least, most := [7]int{1, 1, 0, 0, 0, 0, 1}, [7]int{64, 64, 64, 64, 64, 1024, 64}
	l := []api.Plan{{}}
	for _, good := range []api.Plan{Plan(1, 1, 0, 0, 0, 0), Plan(11, 3, 1, 0, 2, 2), Plan(64, 32, 32, 64, 64, 1024)} {
		for _, f := range NoFields() {
			p := good
			p.Field = f
			l = append(l, p)
		}
		for i := range least {
			for _, n := range []int{math.MinInt, math.MinInt + 1, -1000, least[i] - 1, most[i] + 1, most[i] + 1000, math.MaxInt - 1, math.MaxInt} {
				p := good
				*PlanNumbers(&p)[i] = n
				l = append(l, p)
			}
		}
	}
	return append(l, Plan(1, 64, 1, 0, 0, 0), Plan(1, 1, 64, 0, 0, 0), Plan(64, 33, 32, 0, 0, 1), Plan(64, 32, 33, 0, 0, 1), Plan(64, 64, 64, 0, 0, 1))
}
