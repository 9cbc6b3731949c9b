package points

// P13.1 and P13.2: the errors, and what stands beside them.

import (
	"math"
	"testing"

	"conclave/api"
	"conclave/sample"
)

// wantNone has all calls answer that the plan may not be, and nothing beside it, whatever else is handed in.
func wantNone(t *testing.T, p api.Plan) {
	t.Helper()
	wantPoints(t, p, nil, nil, nil, api.ErrArg)
	wantRows(t, p, nil, api.ErrArg)
	for x := range uint64(130) {
		wantWorker(t, p, x, 0, false, api.ErrArg)
	}
	for _, f := range sample.Fields() {
		for _, x := range append(sample.Outside(f), sample.Prime(f)-1) {
			wantWorker(t, p, x, 0, false, api.ErrArg)
		}
	}
}

func TestNoPlan(t *testing.T) {
	for _, p := range sample.NoPlans() {
		wantNone(t, p)
	}
}

// The numbers next to those that may be, and the least and the greatest one that an int holds, at each place, in both fields.
func TestNoPlanByHand(t *testing.T) {
	for _, f := range sample.Fields() {
		good := sample.With(sample.Plan(11, 3, 1, 0, 2, 2), f, 1)
		wantPoints(t, good, l(0, 1, 2), l(3), workersBy(good), api.OK)
		for i, wrong := range [][]int{{0, -1, 65}, {0, -1, 64, 65}, {-1, 62, 63}, {-1, 65}, {-1, 65}, {-1, 1025}, {0, -1, 65}} {
			for _, n := range append(wrong, math.MinInt, math.MaxInt) {
				p := good
				*sample.PlanNumbers(&p)[i] = n
				wantNone(t, p)
			}
		}
	}
}

// Numbers whose sums would wrap to ones that may be.
func TestNoPlanForSeveralNumbers(t *testing.T) {
	for _, f := range sample.Fields() {
		wantNone(t, sample.With(sample.Plan(4, math.MaxInt, math.MinInt, 0, 0, 1), f, 1))
		wantNone(t, sample.With(sample.Plan(4, math.MinInt, math.MinInt, 0, 0, 1), f, 1))
		wantNone(t, sample.With(sample.Plan(4, -2, 4, 0, 0, 1), f, 1))
		wantNone(t, sample.With(sample.Plan(4, 4, -2, 0, 0, 1), f, 1))
		wantNone(t, sample.With(sample.Plan(-4, 2, 1, 0, 0, 1), f, 1))
		wantNone(t, sample.With(sample.Plan(math.MaxInt, math.MaxInt, math.MaxInt, 0, 0, 1), f, 1))
	}
}

func TestNoField(t *testing.T) {
	for f := range 256 {
		p := sample.With(sample.Plan(4, 2, 1, 0, 0, 1), api.Field(f), 1)
		if f == 1 || f == 2 {
			wantPoints(t, p, l(0, 1), l(2), l(3, 4, 5, 6), api.OK)
			continue
		}
		wantNone(t, p)
	}
}

func TestNoElement(t *testing.T) {
	for _, p := range append(grounds(), sample.Plans()...) {
		prime := sample.Prime(p.Field)
		for _, x := range sample.Outside(p.Field) {
			wantWorker(t, p, x, 0, false, api.ErrArg)
		}
		// As far behind the prime as the points are behind 0.
		for _, point := range workersBy(p) {
			wantWorker(t, p, prime+point, 0, false, api.ErrArg)
		}
		wantWorker(t, p, prime-1, 0, false, api.OK)
	}
}
