package plan

// P12.1 and P12.2: what each call answers, and the chapter's examples.

import (
	"math"
	"math/big"
	"testing"

	"conclave/api"
	"conclave/sample"
)

// By the words of the chapter, with numbers that no sum or product leaves.

func num(n int) *big.Int { return big.NewInt(int64(n)) }

func sum(l ...*big.Int) *big.Int {
	s := new(big.Int)
	for _, n := range l {
		s.Add(s, n)
	}
	return s
}

func fromTo(n *big.Int, least, most int) bool {
	return n.Cmp(num(least)) >= 0 && n.Cmp(num(most)) <= 0
}

func mayBy(p api.Plan) bool {
	return sample.Prime(p.Field) > 0 &&
		fromTo(num(p.N), 1, 64) && fromTo(num(p.K), 1, 64) && fromTo(num(p.Width), 1, 64) &&
		num(p.T).Sign() >= 0 && sum(num(p.K), num(p.T)).Cmp(num(64)) <= 0 &&
		fromTo(num(p.S), 0, 64) && fromTo(num(p.E), 0, 64) && fromTo(num(p.Degree), 0, 1024)
}

func degreeBy(p api.Plan) *big.Int {
	return new(big.Int).Mul(num(p.Degree), sum(num(p.K), num(p.T), num(-1)))
}

func neededBy(p api.Plan) *big.Int { return sum(degreeBy(p), num(p.E), num(p.E), num(1)) }

func spareBy(p api.Plan) *big.Int {
	return new(big.Int).Sub(num(p.N), sum(degreeBy(p), num(p.S), num(p.E), num(p.E), num(1)))
}

func acceptBy(p api.Plan) api.Errno {
	switch {
	case !mayBy(p):
		return api.ErrArg
	case num(p.N).Cmp(sum(degreeBy(p), num(p.S), num(p.E), num(p.E), num(1))) < 0:
		return api.ErrPlan
	}
	return api.OK
}

// widestBy goes through all K there may be, from the least one on.
func widestBy(p api.Plan) (api.Plan, api.Errno) {
	if !mayBy(p) {
		return api.Plan{}, api.ErrArg
	}
	var wide api.Plan
	for k := 1; k <= 70; k++ {
		p.K = k
		if acceptBy(p) == api.OK {
			wide = p
		} else if k == 1 {
			return api.Plan{}, api.ErrPlan
		}
	}
	return wide, api.OK
}

// withoutBy takes one worker away after the other.
func withoutBy(p api.Plan, faulty int) (api.Plan, api.Errno) {
	if !mayBy(p) || faulty < 0 || faulty >= p.N {
		return api.Plan{}, api.ErrArg
	}
	for range faulty {
		p.N--
		if p.E > 0 {
			p.E--
		}
	}
	if !mayBy(p) {
		return api.Plan{}, api.ErrArg
	}
	return p, api.OK
}

func wantMay(t *testing.T, p api.Plan, answer bool) {
	t.Helper()
	if May(p) != answer {
		t.Errorf("May(%v) = %v", p, !answer)
	}
}

// wantNumbers is of a plan that may be.
func wantNumbers(t *testing.T, p api.Plan, degree, needed, spare int, accept api.Errno) {
	t.Helper()
	wantMay(t, p, true)
	if n, e := Degree(p); n != degree || e != api.OK {
		t.Errorf("Degree(%v) = %d, %d, not %d", p, n, e, degree)
	}
	if n, e := Needed(p); n != needed || e != api.OK {
		t.Errorf("Needed(%v) = %d, %d, not %d", p, n, e, needed)
	}
	if n, e := Spare(p); n != spare || e != api.OK {
		t.Errorf("Spare(%v) = %d, %d, not %d", p, n, e, spare)
	}
	if e := Accept(p); e != accept {
		t.Errorf("Accept(%v) = %d, not %d", p, e, accept)
	}
}

func wantWidest(t *testing.T, p, answer api.Plan, e api.Errno) {
	t.Helper()
	if q, got := Widest(p); q != answer || got != e {
		t.Errorf("Widest(%v) = %v, %d, not %v, %d", p, q, got, answer, e)
	}
}

func wantWithout(t *testing.T, p api.Plan, faulty int, answer api.Plan, e api.Errno) {
	t.Helper()
	if q, got := Without(p, faulty); q != answer || got != e {
		t.Errorf("Without(%v, %d) = %v, %d, not %v, %d", p, faulty, q, got, answer, e)
	}
}

// faulties are how many workers may be taken away of so many, and numbers that are no such ones.
func faulties(p api.Plan) []int {
	return []int{math.MinInt, math.MinInt + 1, -65, -1, 0, 1, 2, 3, p.E - 1, p.E, p.E + 1, p.N / 2, p.N - 2, p.N - 1, p.N, p.N + 1, 63, 64, 65, math.MaxInt - 1, math.MaxInt}
}

// wantByWords holds all calls against the words.
func wantByWords(t *testing.T, p api.Plan) {
	t.Helper()
	if !mayBy(p) {
		wantNone(t, p)
		return
	}
	wantNumbers(t, p, int(degreeBy(p).Int64()), int(neededBy(p).Int64()), int(spareBy(p).Int64()), acceptBy(p))
	q, e := widestBy(p)
	wantWidest(t, p, q, e)
	for _, n := range faulties(p) {
		q, e := withoutBy(p, n)
		wantWithout(t, p, n, q, e)
	}
}

// with is p with another number at the place i of sample.PlanNumbers.
func with(p api.Plan, i, n int) api.Plan {
	*sample.PlanNumbers(&p)[i] = n
	return p
}

// about are all numbers at which anything in a plan begins or ends.
func about() []int {
	return []int{math.MinInt, math.MinInt + 1, math.MinInt / 2, -1025, -65, -64, -2, -1, 0, 1, 2, 3, 31, 32, 33, 62, 63, 64, 65, 66, 128, 1023, 1024, 1025, 1026, 1 << 31, 1<<32 + 1, math.MaxInt - 63, math.MaxInt - 1, math.MaxInt}
}

// cornered are plans about which all numbers are put, one and two at a time.
func cornered() []api.Plan {
	return []api.Plan{sample.Plan(1, 1, 0, 0, 0, 0), sample.Plan(11, 3, 1, 0, 2, 2), sample.Plan(64, 1, 1, 1, 1, 1), sample.Plan(64, 32, 32, 64, 64, 1024)}
}

func TestAll(t *testing.T) {
	for _, p := range append(sample.Plans(), sample.NoPlans()...) {
		wantByWords(t, p)
	}
}

func TestAllAboutOneNumber(t *testing.T) {
	for _, p := range append(cornered(), sample.Plans()...) {
		for i := range sample.PlanNumbers(&p) {
			for _, n := range about() {
				wantByWords(t, with(p, i, n))
			}
		}
	}
}

func TestAllAboutTwoNumbers(t *testing.T) {
	for _, p := range cornered() {
		for i := range sample.PlanNumbers(&p) {
			for j := range i {
				for _, m := range about() {
					for _, n := range about() {
						wantByWords(t, with(with(p, i, m), j, n))
					}
				}
			}
		}
	}
}

// P12.1

func TestMayOfEachField(t *testing.T) {
	for f := range 256 {
		p := sample.Plan(11, 3, 1, 0, 2, 2)
		p.Field = api.Field(f)
		wantMay(t, p, f == 1 || f == 2)
	}
}

// Each number alone, from below its least to above its greatest one, the others as low as they may be.
func TestMayOfEachNumber(t *testing.T) {
	for i, bounds := range [][2]int{{1, 64}, {1, 64}, {0, 63}, {0, 64}, {0, 64}, {0, 1024}, {1, 64}} {
		for n := -1100; n <= 1100; n++ {
			wantMay(t, with(sample.Plan(1, 1, 0, 0, 0, 0), i, n), n >= bounds[0] && n <= bounds[1])
		}
	}
}

// Each K with each T; and T where the sum of both would wrap.
func TestMayOfDataBlocksAndPads(t *testing.T) {
	for k := -2; k <= 70; k++ {
		for pads := -2; pads <= 70; pads++ {
			wantMay(t, sample.Plan(64, k, pads, 0, 0, 1), k >= 1 && pads >= 0 && k+pads <= 64)
		}
		for n := range 70 {
			wantMay(t, sample.Plan(64, k, math.MaxInt-n, 0, 0, 1), false)
			wantMay(t, sample.Plan(64, k, math.MinInt+n, 0, 0, 1), false)
			wantMay(t, sample.Plan(64, math.MaxInt-n, k, 0, 0, 1), false)
			wantMay(t, sample.Plan(64, math.MinInt+n, k, 0, 0, 1), false)
		}
	}
}

// Numbers that might be taken for one another: no worker has to be there for the silent and the faulty ones, nor for the data blocks and the pads.
func TestMayAsksNoMore(t *testing.T) {
	for _, p := range []api.Plan{sample.Plan(1, 1, 0, 64, 64, 1024), sample.Plan(1, 64, 0, 0, 0, 1024), sample.Plan(1, 1, 63, 0, 64, 0), sample.Plan(2, 32, 32, 64, 0, 1)} {
		wantMay(t, p, true)
	}
}

func TestNumbersByHand(t *testing.T) {
	for _, f := range sample.Fields() {
		for _, width := range []int{1, 2, 63, 64} {
			for _, c := range []struct {
				p                     api.Plan
				degree, needed, spare int
				accept                api.Errno
			}{
				{sample.Plan(4, 2, 1, 0, 0, 1), 2, 3, 1, api.OK},
				{sample.Plan(5, 2, 1, 0, 1, 1), 2, 5, 0, api.OK},
				{sample.Plan(20, 4, 2, 3, 2, 3), 15, 20, -3, api.ErrPlan},
				{sample.Plan(23, 4, 2, 3, 2, 3), 15, 20, 0, api.OK},
				{sample.Plan(64, 5, 3, 7, 6, 4), 28, 41, 16, api.OK},
				// The degree of the plan is 0: of a degree of 0, and of K + T of 1.
				{sample.Plan(1, 1, 0, 0, 0, 0), 0, 1, 0, api.OK},
				{sample.Plan(1, 64, 0, 0, 0, 0), 0, 1, 0, api.OK},
				{sample.Plan(6, 10, 54, 1, 2, 0), 0, 5, 0, api.OK},
				{sample.Plan(6, 1, 0, 1, 2, 1024), 0, 5, 0, api.OK},
				{sample.Plan(5, 1, 0, 1, 2, 1024), 0, 5, -1, api.ErrPlan},
				// Silent and faulty workers alone.
				{sample.Plan(64, 1, 0, 63, 0, 7), 0, 1, 0, api.OK},
				{sample.Plan(64, 1, 0, 64, 0, 7), 0, 1, -1, api.ErrPlan},
				{sample.Plan(63, 1, 0, 0, 31, 7), 0, 63, 0, api.OK},
				{sample.Plan(64, 1, 0, 1, 31, 7), 0, 63, 0, api.OK},
				{sample.Plan(64, 1, 0, 0, 32, 7), 0, 65, -1, api.ErrPlan},
				{sample.Plan(64, 1, 0, 0, 64, 7), 0, 129, -65, api.ErrPlan},
				// Data blocks, pads, a degree alone.
				{sample.Plan(64, 64, 0, 0, 0, 1), 63, 64, 0, api.OK},
				{sample.Plan(63, 64, 0, 0, 0, 1), 63, 64, -1, api.ErrPlan},
				{sample.Plan(64, 1, 63, 0, 0, 1), 63, 64, 0, api.OK},
				{sample.Plan(64, 2, 0, 0, 0, 63), 63, 64, 0, api.OK},
				{sample.Plan(64, 1, 1, 0, 0, 64), 64, 65, -1, api.ErrPlan},
				{sample.Plan(64, 1, 0, 0, 0, 1024), 0, 1, 63, api.OK},
				// The greatest numbers.
				{sample.Plan(64, 64, 0, 0, 0, 1024), 64512, 64513, -64449, api.ErrPlan},
				{sample.Plan(1, 1, 63, 64, 64, 1024), 64512, 64641, -64704, api.ErrPlan},
			} {
				c.p.Field, c.p.Width = f, width
				wantNumbers(t, c.p, c.degree, c.needed, c.spare, c.accept)
			}
		}
	}
}

// Just as many workers as it takes, one more, one less.
func TestAcceptAboutJustEnough(t *testing.T) {
	asked := 0
	for _, p := range many() {
		enough := p.Degree*(p.K+p.T-1) + p.S + 2*p.E + 1
		for n, accept := range map[int]api.Errno{enough - 1: api.ErrPlan, enough: api.OK, enough + 1: api.OK} {
			if p.N = n; n < 1 || n > 64 {
				continue
			}
			asked++
			if e := Accept(p); e != accept {
				t.Errorf("Accept(%v) = %d", p, e)
			}
			if spare, e := Spare(p); spare != n-enough || e != api.OK {
				t.Errorf("Spare(%v) = %d, %d", p, spare, e)
			}
		}
	}
	if asked < 1000 {
		t.Errorf("only %d were asked", asked)
	}
}

// many are plans that may be, of all sizes, of which a good part is accepted.
func many() []api.Plan {
	var l []api.Plan
	for _, n := range []int{1, 2, 5, 11, 16, 33, 63, 64} {
		for _, k := range []int{1, 2, 3, 7, 31, 63, 64} {
			for _, pads := range []int{0, 1, 2, 5, 32, 63} {
				for _, silent := range []int{0, 1, 3, 12, 64} {
					for _, faulty := range []int{0, 1, 2, 7, 31, 64} {
						for _, degree := range []int{0, 1, 2, 3, 9, 63, 1024} {
							if k+pads <= 64 {
								p := sample.Plan(n, k, pads, silent, faulty, degree)
								p.Field, p.Width = sample.Fields()[len(l)%2], 1+len(l)%64
								l = append(l, p)
							}
						}
					}
				}
			}
		}
	}
	return l
}

func TestMany(t *testing.T) {
	accepted := 0
	for _, p := range many() {
		wantByWords(t, p)
		if Accept(p) == api.OK {
			accepted++
		}
	}
	if all := len(many()); accepted < 1000 || accepted > all-1000 {
		t.Errorf("of %d plans %d are accepted", all, accepted)
	}
}

// P12.2

func TestWidestByHand(t *testing.T) {
	for _, c := range []struct {
		p api.Plan
		k int
	}{
		// K is already the widest, less than it, more than it.
		{sample.Plan(11, 3, 1, 0, 2, 2), 3},
		{sample.Plan(11, 1, 1, 0, 2, 2), 3},
		{sample.Plan(11, 2, 1, 0, 2, 2), 3},
		{sample.Plan(11, 4, 1, 0, 2, 2), 3},
		{sample.Plan(11, 63, 1, 0, 2, 2), 3},
		{sample.Plan(12, 3, 1, 0, 2, 2), 3},
		{sample.Plan(13, 3, 1, 0, 2, 2), 4},
		// None but a K of 1.
		{sample.Plan(1, 64, 0, 0, 0, 1), 1},
		{sample.Plan(1, 64, 0, 0, 0, 1024), 1},
		{sample.Plan(64, 1, 0, 63, 0, 1), 1},
		{sample.Plan(64, 2, 1, 0, 0, 63), 1},
		{sample.Plan(64, 63, 1, 0, 0, 32), 1},
		// The limit of K + T stops it, with workers to spare or just enough.
		{sample.Plan(64, 1, 0, 0, 0, 1), 64},
		{sample.Plan(63, 1, 0, 0, 0, 1), 63},
		{sample.Plan(64, 1, 1, 0, 0, 1), 63},
		{sample.Plan(64, 1, 62, 0, 0, 1), 2},
		{sample.Plan(64, 1, 63, 0, 0, 1), 1},
		// A degree of 0 takes no workers, whatever K is.
		{sample.Plan(1, 1, 0, 0, 0, 0), 64},
		{sample.Plan(1, 1, 10, 0, 0, 0), 54},
		{sample.Plan(1, 1, 63, 0, 0, 0), 1},
		{sample.Plan(64, 5, 3, 63, 0, 0), 61},
		{sample.Plan(64, 5, 3, 1, 31, 0), 61},
	} {
		for _, f := range sample.Fields() {
			for _, width := range []int{1, 64} {
				c.p.Field, c.p.Width = f, width
				wide := c.p
				wide.K = c.k
				wantWidest(t, c.p, wide, api.OK)
			}
		}
	}
	// Not even a K of 1.
	for _, p := range []api.Plan{sample.Plan(2, 1, 0, 2, 0, 1), sample.Plan(2, 64, 0, 2, 0, 0), sample.Plan(64, 1, 0, 64, 0, 1), sample.Plan(64, 1, 0, 0, 32, 1), sample.Plan(64, 1, 1, 0, 0, 64), sample.Plan(63, 1, 63, 0, 0, 1), sample.Plan(1, 1, 63, 64, 64, 1024), sample.Plan(6, 2, 1, 0, 2, 2)} {
		wantWidest(t, p, api.Plan{}, api.ErrPlan)
	}
}

// Whatever K there is, the widest is the same one; one more is not accepted, or may not be.
func TestWidestIsTheGreatest(t *testing.T) {
	for _, p := range many() {
		wide, e := Widest(p)
		for _, k := range []int{1, 2, 33, 64 - p.T} {
			if p.K = k; k <= 64-p.T {
				wantWidest(t, p, wide, e)
			}
		}
		if e != api.OK {
			continue
		}
		wantWidest(t, wide, wide, api.OK)
		if accepted := Accept(wide); accepted != api.OK {
			t.Errorf("%v is not accepted: %d", wide, accepted)
		}
		wide.K++
		if Accept(wide) == api.OK {
			t.Errorf("%v is accepted", wide)
		}
	}
}

func TestWithoutByHand(t *testing.T) {
	p := api.Plan{Field: api.Large, N: 11, K: 3, T: 1, S: 5, E: 3, Degree: 2, Width: 7}
	for faulty, c := range []struct{ n, e int }{{11, 3}, {10, 2}, {9, 1}, {8, 0}, {7, 0}, {6, 0}, {5, 0}, {4, 0}, {3, 0}, {2, 0}, {1, 0}} {
		wantWithout(t, p, faulty, api.Plan{Field: api.Large, N: c.n, K: 3, T: 1, S: 5, E: c.e, Degree: 2, Width: 7}, api.OK)
	}
	// More faulty ones may be than there are workers.
	wantWithout(t, sample.Plan(64, 1, 0, 0, 64, 1), 63, sample.Plan(1, 1, 0, 0, 1, 1), api.OK)
	wantWithout(t, sample.Plan(3, 1, 0, 0, 64, 1), 2, sample.Plan(1, 1, 0, 0, 62, 1), api.OK)
	wantWithout(t, sample.Plan(64, 1, 0, 0, 0, 1), 63, sample.Plan(1, 1, 0, 0, 0, 1), api.OK)
	wantWithout(t, sample.Plan(1, 1, 0, 0, 0, 1), 0, sample.Plan(1, 1, 0, 0, 0, 1), api.OK)
	// Whether it is accepted is not asked, before and behind.
	wantWithout(t, sample.Plan(9, 3, 1, 0, 2, 2), 1, sample.Plan(8, 3, 1, 0, 1, 2), api.OK)
	wantWithout(t, sample.Plan(11, 3, 1, 0, 2, 2), 5, sample.Plan(6, 3, 1, 0, 0, 2), api.OK)
	wantWithout(t, sample.Plan(1, 1, 63, 64, 64, 1024), 0, sample.Plan(1, 1, 63, 64, 64, 1024), api.OK)
}

// Each number of workers of each plan of so many.
func TestWithoutEach(t *testing.T) {
	for n := 1; n <= 64; n++ {
		for _, most := range []int{0, 1, 2, n / 2, n - 1, n, 64} {
			p := sample.Plan(n, 2, 3, 1, most, 4)
			for faulty := -3; faulty < n+3; faulty++ {
				q, e := withoutBy(p, faulty)
				wantWithout(t, p, faulty, q, e)
			}
		}
	}
}

// The examples of the chapter.

func TestExamples(t *testing.T) {
	wantNumbers(t, sample.Plan(9, 3, 1, 0, 2, 2), 6, 11, -2, api.ErrPlan)
	for p, e := range map[api.Plan]api.Errno{sample.Plan(11, 3, 1, 0, 2, 2): api.OK, sample.Plan(11, 3, 1, 1, 2, 2): api.ErrPlan, sample.Plan(1, 1, 0, 0, 0, 1024): api.OK} {
		if got := Accept(p); got != e {
			t.Errorf("Accept(%v) = %d", p, got)
		}
	}
	wantWidest(t, sample.Plan(11, 1, 1, 0, 2, 2), sample.Plan(11, 3, 1, 0, 2, 2), api.OK)
	wantWidest(t, sample.Plan(2, 1, 0, 2, 0, 1), api.Plan{}, api.ErrPlan)
	wantWithout(t, sample.Plan(11, 3, 1, 0, 2, 2), 2, sample.Plan(9, 3, 1, 0, 0, 2), api.OK)
	wantWithout(t, sample.Plan(1, 1, 0, 0, 0, 1), 1, api.Plan{}, api.ErrArg)
}
