package plan

// Rule 5: what is handed in stays as it is; and nothing is kept from call to call.

import (
	"testing"

	"conclave/api"
	"conclave/sample"
)

// answers are all that the calls tell of a plan.
type answers struct {
	may                           bool
	degree, needed, spare         int
	accept, ed, en, es, wide, out api.Errno
	widest, without               api.Plan
}

func tell(p api.Plan, faulty int) answers {
	a := answers{may: May(p), accept: Accept(p)}
	a.degree, a.ed = Degree(p)
	a.needed, a.en = Needed(p)
	a.spare, a.es = Spare(p)
	a.widest, a.wide = Widest(p)
	a.without, a.out = Without(p, faulty)
	return a
}

func TestMemory(t *testing.T) {
	plans := append(append(many(), sample.Plans()...), sample.NoPlans()...)
	before := append([]api.Plan(nil), plans...)
	first := make([]answers, len(plans))
	for i := range plans {
		first[i] = tell(plans[i], plans[i].E)
	}
	// Again, in the other order.
	for i := len(plans) - 1; i >= 0; i-- {
		if again := tell(plans[i], plans[i].E); again != first[i] {
			t.Errorf("of %v, then %v, and again %v", plans[i], first[i], again)
		}
		if plans[i] != before[i] {
			t.Errorf("%v was %v", plans[i], before[i])
		}
	}
}
