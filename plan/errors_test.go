package plan

// P12.1 and P12.2: the errors, which of them comes first, and what stands beside them.

import (
	"math"
	"testing"

	"conclave/api"
	"conclave/sample"
)

// wantNone has all calls answer that the plan may not be, and nothing beside it.
func wantNone(t *testing.T, p api.Plan) {
	t.Helper()
	wantMay(t, p, false)
	for what, of := range map[string]func(api.Plan) (int, api.Errno){"Degree": Degree, "Needed": Needed, "Spare": Spare} {
		if n, e := of(p); n != 0 || e != api.ErrArg {
			t.Errorf("%s(%v) = %d, %d", what, p, n, e)
		}
	}
	if e := Accept(p); e != api.ErrArg {
		t.Errorf("Accept(%v) = %d", p, e)
	}
	wantWidest(t, p, api.Plan{}, api.ErrArg)
	for _, n := range faulties(p) {
		wantWithout(t, p, n, api.Plan{}, api.ErrArg)
	}
}

func TestNoPlan(t *testing.T) {
	for _, p := range sample.NoPlans() {
		wantNone(t, p)
	}
}

// The edges that the document names, and the least and the greatest number that an int holds, at each place.
func TestNoPlanByHand(t *testing.T) {
	good := sample.Plan(11, 3, 1, 0, 2, 2)
	for i, wrong := range [][]int{{0, 65}, {0, 65}, {-1, 62, 63, 64}, {-1, 65}, {-1, 65}, {-1, 1025}, {0, 65}} {
		for _, n := range append(wrong, math.MinInt, math.MaxInt) {
			wantNone(t, with(good, i, n))
		}
	}
	for i, right := range [][]int{{1, 64}, {1, 63}, {0, 61}, {0, 64}, {0, 64}, {0, 1024}, {1, 64}} {
		for _, n := range right {
			wantByWords(t, with(good, i, n))
			wantMay(t, with(good, i, n), true)
		}
	}
	wantNone(t, sample.Plan(11, 64, 1, 0, 2, 2))
	wantNone(t, sample.Plan(11, 1, 64, 0, 2, 2))
	wantNone(t, api.Plan{})
	wantNone(t, api.Plan{Field: api.Small})
}

// Several numbers may not be at once, also where wrapped sums and products of them would look like ones that may.
func TestNoPlanForSeveralNumbers(t *testing.T) {
	wantNone(t, sample.Plan(11, math.MaxInt, math.MaxInt, 0, 2, 2))
	wantNone(t, sample.Plan(11, math.MinInt, math.MinInt, 0, 2, 2))
	wantNone(t, sample.Plan(11, math.MaxInt, math.MinInt, 0, 2, 2))
	wantNone(t, sample.Plan(11, math.MinInt+3, math.MinInt+1, 0, 2, 2))
	wantNone(t, sample.Plan(11, 1, 0, math.MaxInt, math.MaxInt, math.MaxInt))
	wantNone(t, sample.Plan(11, 1, 0, 2, math.MinInt, 1))
	wantNone(t, sample.Plan(11, 3, 2, 0, 0, 1<<62))
	wantNone(t, sample.Plan(math.MinInt, math.MinInt, math.MinInt, math.MinInt, math.MinInt, math.MinInt))
	wantNone(t, sample.Plan(math.MaxInt, math.MaxInt, math.MaxInt, math.MaxInt, math.MaxInt, math.MaxInt))
}

// A plan that may not be, and would not be accepted, not even with a K of 1, is one that may not be.
func TestNoPlanComesFirst(t *testing.T) {
	poor := sample.Plan(2, 2, 1, 64, 64, 1024)
	wantNumbers(t, poor, 2048, 2177, -2239, api.ErrPlan)
	wantWidest(t, poor, api.Plan{}, api.ErrPlan)
	for i, wrong := range [][]int{{0, -1}, {0, 64, 65}, {-1, 63}, {-1, 65}, {-1, 65}, {-1, 1025}, {0, 65}} {
		for _, n := range wrong {
			wantNone(t, with(poor, i, n))
		}
	}
	for _, f := range sample.NoFields() {
		p := poor
		p.Field = f
		wantNone(t, p)
	}
}

// The K of a plan that is to be made wider is asked for too, though another one comes in its place.
func TestWidestAsksForK(t *testing.T) {
	for _, k := range []int{math.MinInt, -1, 0, 63, 64, 65, math.MaxInt} {
		wantWidest(t, sample.Plan(64, k, 2, 0, 0, 1), api.Plan{}, api.ErrArg)
	}
	wantWidest(t, sample.Plan(64, 62, 2, 0, 0, 1), sample.Plan(64, 62, 2, 0, 0, 1), api.OK)
}

func TestWithoutAsksForTheNumber(t *testing.T) {
	for _, p := range sample.Plans() {
		for _, n := range []int{math.MinInt, math.MinInt + 1, -64, -1, p.N, p.N + 1, 65, math.MaxInt - 1, math.MaxInt} {
			wantWithout(t, p, n, api.Plan{}, api.ErrArg)
		}
	}
}
