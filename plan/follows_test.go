package plan

// P12.3: what follows.

import (
	"testing"

	"conclave/api"
	"conclave/sample"
)

// accepted are many plans that are, of them many with just as many workers as it takes.
func accepted(t *testing.T) []api.Plan {
	t.Helper()
	var l []api.Plan
	tight := 0
	for _, p := range append(many(), sample.Plans()...) {
		spare, e := Spare(p)
		if e != api.OK || spare < 0 {
			continue
		}
		l = append(l, p)
		if p.N -= spare; p.N > 0 {
			l = append(l, p)
			tight++
		}
	}
	if tight < 1000 {
		t.Errorf("only %d with just enough workers", tight)
	}
	return l
}

func wantAccepted(t *testing.T, p, from api.Plan) {
	t.Helper()
	if e := Accept(p); e != api.OK {
		t.Errorf("Accept(%v) = %d, but %v is accepted", p, e, from)
	}
}

func TestWhatIsEasierIsAccepted(t *testing.T) {
	asked := map[string]int{}
	for _, p := range accepted(t) {
		wantAccepted(t, p, p)
		for what, easier := range map[string]func(q *api.Plan){
			"a worker more":        func(q *api.Plan) { q.N++ },
			"a pad less":           func(q *api.Plan) { q.T-- },
			"a silent worker less": func(q *api.Plan) { q.S-- },
			"a faulty worker less": func(q *api.Plan) { q.E-- },
			"a degree less":        func(q *api.Plan) { q.Degree-- },
		} {
			q := p
			if easier(&q); mayBy(q) {
				wantAccepted(t, q, p)
				asked[what]++
			} else if e := Accept(q); e != api.ErrArg {
				t.Errorf("Accept(%v) = %d", q, e)
			}
		}
	}
	if len(asked) != 5 {
		t.Errorf("not all was asked: %v", asked)
	}
	for what, n := range asked {
		if n < 500 {
			t.Errorf("%s: only %d were asked", what, n)
		}
	}
}

func TestAcceptedPlansHaveTheRepliesTheyNeed(t *testing.T) {
	for _, p := range accepted(t) {
		n, e := Needed(p)
		if e != api.OK || p.N < n || p.N-p.S < n {
			t.Errorf("Needed(%v) = %d, %d", p, n, e)
		}
		if spare, e := Spare(p); e != api.OK || p.N-p.S-n != spare {
			t.Errorf("Spare(%v) = %d, %d, but it needs %d", p, spare, e, n)
		}
	}
}

func TestAcceptedWithoutFaultyOnes(t *testing.T) {
	for _, p := range accepted(t) {
		for faulty := range p.E + 1 {
			q, e := Without(p, faulty)
			if e != api.OK || q.N != p.N-faulty || q.E != p.E-faulty {
				t.Fatalf("Without(%v, %d) = %v, %d", p, faulty, q, e)
			}
			wantAccepted(t, q, p)
		}
	}
}

// One behind the other, or at once, the same plan is left.
func TestWithoutTwice(t *testing.T) {
	for _, p := range sample.Plans() {
		for first := range p.N {
			once, e := Without(p, first)
			if e != api.OK {
				t.Fatalf("Without(%v, %d): %d", p, first, e)
			}
			for second := range p.N + 1 {
				q, e := Without(p, first+second)
				wantWithout(t, once, second, q, e)
			}
		}
	}
}
