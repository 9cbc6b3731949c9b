package points

import (
	"math"
	"slices"
	"testing"

	"conclave/api"
	"conclave/field"
	"conclave/interp"
	"conclave/sample"
)

func l(a ...uint64) []uint64 { return a }

// The reference: by the words of the chapter, one point at a time.

func dataBy(p api.Plan) (points []uint64) {
	for k := 0; k < p.K; k++ {
		points = append(points, uint64(k))
	}
	return points
}

func padsBy(p api.Plan) (points []uint64) {
	for t := 0; t < p.T; t++ {
		points = append(points, uint64(p.K+t))
	}
	return points
}

func workersBy(p api.Plan) (points []uint64) {
	for i := 0; i < p.N; i++ {
		points = append(points, uint64(p.K+p.T+i))
	}
	return points
}

func innerBy(p api.Plan) []uint64 { return slices.Concat(dataBy(p), padsBy(p)) }

// workerBy is of an element x.
func workerBy(p api.Plan, x uint64) (i int, ok bool) {
	i = slices.Index(workersBy(p), x)
	return max(i, 0), i >= 0
}

// without is the product of x's differences to all of xs but the one at the place i.
func without(f api.Field, xs []uint64, i int, x uint64) uint64 {
	product := uint64(1)
	for j, other := range xs {
		if j != i {
			d, _ := field.Sub(f, x, other)
			product, _ = field.Mul(f, product, d)
		}
	}
	return product
}

// rowBy is of the fields alone: for each inner point the product that is 0 at all others, by what it is at the point itself.
func rowBy(p api.Plan, x uint64) (row []uint64) {
	inner := innerBy(p)
	for i, point := range inner {
		b, _ := field.Div(p.Field, without(p.Field, inner, i, x), without(p.Field, inner, i, point))
		row = append(row, b)
	}
	return row
}

func same(a, b [][]uint64) bool { return slices.EqualFunc(a, b, slices.Equal[[]uint64]) }

// lists are the calls that answer a list of points.
func lists() map[string]func(api.Plan) ([]uint64, api.Errno) {
	return map[string]func(api.Plan) ([]uint64, api.Errno){"Data": Data, "Pads": Pads, "Workers": Workers}
}

func wantPoints(t *testing.T, p api.Plan, data, pads, workers []uint64, e api.Errno) {
	t.Helper()
	want := map[string][]uint64{"Data": data, "Pads": pads, "Workers": workers}
	for what, of := range lists() {
		if points, got := of(p); !slices.Equal(points, want[what]) || got != e {
			t.Errorf("%s(%v) = %v, %d, not %v, %d", what, p, points, got, want[what], e)
		}
	}
}

func wantWorker(t *testing.T, p api.Plan, x uint64, i int, ok bool, e api.Errno) {
	t.Helper()
	if gotI, gotOK, got := Worker(p, x); gotI != i || gotOK != ok || got != e {
		t.Errorf("Worker(%v, %d) = %d, %v, %d, not %d, %v, %d", p, x, gotI, gotOK, got, i, ok, e)
	}
}

func wantRows(t *testing.T, p api.Plan, answer [][]uint64, e api.Errno) {
	t.Helper()
	if rows, got := Rows(p); !same(rows, answer) || got != e {
		t.Errorf("Rows(%v) = %v, %d, not %v, %d", p, rows, got, answer, e)
	}
}

// shaped are plans of all numbers of data blocks and pads, with as many workers as each of ns, of both fields.
func shaped(ns ...int) []api.Plan {
	var plans []api.Plan
	for k := 1; k <= 64; k++ {
		for pads := 0; k+pads <= 64; pads++ {
			for i, n := range ns {
				plans = append(plans, sample.With(sample.Plan(n, k, pads, 0, 0, 1), sample.Fields()[(k+i)%2], 1+pads))
			}
		}
	}
	return plans
}

// P13.1

func TestPoints(t *testing.T) {
	for _, p := range append(shaped(1, 2, 5, 63, 64), sample.Plans()...) {
		wantPoints(t, p, dataBy(p), padsBy(p), workersBy(p), api.OK)
	}
	for n := 1; n <= 64; n++ {
		for _, f := range sample.Fields() {
			p := sample.With(sample.Plan(n, 3, 2, 1, 1, 2), f, 4)
			wantPoints(t, p, l(0, 1, 2), l(3, 4), workersBy(p), api.OK)
		}
	}
}

func TestPointsByHand(t *testing.T) {
	for _, f := range sample.Fields() {
		for _, c := range []struct {
			n, k, t             int
			data, pads, workers []uint64
		}{
			{4, 2, 1, l(0, 1), l(2), l(3, 4, 5, 6)},
			{1, 1, 1, l(0), l(1), l(2)},
			{3, 1, 4, l(0), l(1, 2, 3, 4), l(5, 6, 7)},
			{2, 5, 2, l(0, 1, 2, 3, 4), l(5, 6), l(7, 8)},
			// No pad; K + T of 1.
			{4, 2, 0, l(0, 1), nil, l(2, 3, 4, 5)},
			{1, 1, 0, l(0), nil, l(1)},
			{3, 1, 0, l(0), nil, l(1, 2, 3)},
		} {
			wantPoints(t, sample.With(sample.Plan(c.n, c.k, c.t, 0, 0, 1), f, 1), c.data, c.pads, c.workers, api.OK)
		}
	}
}

// The first and the last point, and how many there are, where there are as many as there may be.
func TestPointsAtTheLimits(t *testing.T) {
	for _, f := range sample.Fields() {
		for _, c := range []struct {
			p           api.Plan
			of          string
			first, last uint64
			n           int
		}{
			{sample.Plan(64, 64, 0, 0, 0, 1), "Data", 0, 63, 64},
			{sample.Plan(64, 64, 0, 0, 0, 1), "Workers", 64, 127, 64},
			{sample.Plan(64, 1, 63, 0, 0, 1), "Data", 0, 0, 1},
			{sample.Plan(64, 1, 63, 0, 0, 1), "Pads", 1, 63, 63},
			{sample.Plan(64, 1, 63, 0, 0, 1), "Workers", 64, 127, 64},
			{sample.Plan(1, 32, 32, 0, 0, 1), "Pads", 32, 63, 32},
			{sample.Plan(1, 32, 32, 0, 0, 1), "Workers", 64, 64, 1},
			{sample.Plan(64, 1, 0, 0, 0, 1), "Workers", 1, 64, 64},
		} {
			points, e := lists()[c.of](sample.With(c.p, f, 64))
			if e != api.OK || len(points) != c.n || points[0] != c.first || points[c.n-1] != c.last {
				t.Errorf("%s(%v) of the field %d = %v, %d", c.of, c.p, f, points, e)
			}
		}
	}
}

// asked are elements about all points of a plan, and ones that might be taken for a point where numbers wrap or are cut.
func asked(p api.Plan) []uint64 {
	var xs []uint64
	for x := range uint64(200) {
		xs = append(xs, x)
	}
	xs = append(xs, sample.Elements(p.Field)...)
	prime := sample.Prime(p.Field)
	for _, point := range []int{0, p.K, p.K + p.T, p.K + p.T + p.N - 1, p.K + p.T + p.N} {
		for _, more := range []uint64{1 << 8, 1 << 16, 1 << 30, 1 << 31, 1 << 32, 1 << 48, 1 << 63, prime - 200, prime / 2} {
			xs = append(xs, (more+uint64(point))%prime)
		}
	}
	return xs
}

func TestWorker(t *testing.T) {
	for _, p := range append(shaped(1, 64), sample.Plans()...) {
		for _, x := range asked(p) {
			i, ok := workerBy(p, x)
			wantWorker(t, p, x, i, ok, api.OK)
		}
	}
}

func TestWorkerByHand(t *testing.T) {
	for _, f := range sample.Fields() {
		p := sample.With(sample.Plan(4, 2, 3, 0, 0, 1), f, 7)
		for x, i := range map[uint64]int{5: 0, 6: 1, 7: 2, 8: 3} {
			wantWorker(t, p, x, i, true, api.OK)
		}
		// The data blocks', the pads', the one behind the last, the last of the field.
		for _, x := range l(0, 1, 2, 3, 4, 9, 10, 64, 127, 128, sample.Prime(f)-2, sample.Prime(f)-1) {
			wantWorker(t, p, x, 0, false, api.OK)
		}
		for _, x := range l(sample.Prime(f), sample.Prime(f)+5, sample.Prime(f)+8, math.MaxUint64-1, math.MaxUint64) {
			wantWorker(t, p, x, 0, false, api.ErrArg)
		}
	}
	// What is no element of the one field may be one of the other.
	p := sample.Plan(4, 2, 3, 0, 0, 1)
	for _, x := range l(2013265921, 2013265926, 1<<32+5, 1<<63, 18446744069414584320) {
		wantWorker(t, p, x, 0, false, api.ErrArg)
		wantWorker(t, sample.With(p, api.Large, 1), x, 0, false, api.OK)
	}
}

func TestWorkerAtTheLimits(t *testing.T) {
	for _, f := range sample.Fields() {
		for _, c := range []struct {
			n, k, t     int
			first, last uint64
		}{{1, 1, 0, 1, 1}, {64, 1, 0, 1, 64}, {1, 64, 0, 64, 64}, {64, 64, 0, 64, 127}, {1, 1, 63, 64, 64}, {64, 1, 63, 64, 127}, {64, 32, 32, 64, 127}} {
			p := sample.With(sample.Plan(c.n, c.k, c.t, 0, 0, 1), f, 64)
			wantWorker(t, p, c.first, 0, true, api.OK)
			wantWorker(t, p, c.last, c.n-1, true, api.OK)
			for _, x := range l(0, c.first-1, c.last+1, sample.Prime(f)-1) {
				wantWorker(t, p, x, 0, false, api.OK)
			}
			for _, x := range l(sample.Prime(f), math.MaxUint64) {
				wantWorker(t, p, x, 0, false, api.ErrArg)
			}
		}
	}
}

// Whether a plan is accepted is not asked, nor whatever else it says beside N, K and T.
func TestNothingElseCounts(t *testing.T) {
	for _, f := range sample.Fields() {
		plain := sample.With(sample.Plan(4, 2, 1, 0, 0, 1), f, 1)
		rows, _ := Rows(plain)
		for _, silent := range []int{0, 1, 64} {
			for _, faulty := range []int{0, 2, 64} {
				for _, degree := range []int{0, 1, 3, 1024} {
					for _, width := range []int{1, 5, 64} {
						p := sample.With(sample.Plan(4, 2, 1, silent, faulty, degree), f, width)
						wantPoints(t, p, l(0, 1), l(2), l(3, 4, 5, 6), api.OK)
						wantWorker(t, p, 6, 3, true, api.OK)
						wantWorker(t, p, 7, 0, false, api.OK)
						wantRows(t, p, rows, api.OK)
					}
				}
			}
		}
	}
}

// P13.2

// grounds are plans for rows: all small ones, some of all sizes, and the sample's.
func grounds() []api.Plan {
	plans := sample.Plans()
	for _, f := range sample.Fields() {
		for n := 1; n <= 6; n++ {
			for k := 1; k <= 5; k++ {
				for pads := range 5 {
					plans = append(plans, sample.With(sample.Plan(n, k, pads, 0, 0, 1), f, 2))
				}
			}
		}
		for _, n := range []int{1, 17, 64} {
			for _, k := range []int{1, 10, 31, 32, 63, 64} {
				for _, pads := range []int{0, 1, 8, 32, 63} {
					if k+pads <= 64 {
						plans = append(plans, sample.With(sample.Plan(n, k, pads, 2, 3, 5), f, 64))
					}
				}
			}
		}
	}
	return plans
}

func TestRowsAreThoseOfBasis(t *testing.T) {
	for _, p := range grounds() {
		var want [][]uint64
		for _, x := range workersBy(p) {
			row, e := interp.Basis(p.Field, innerBy(p), x)
			if e != api.OK {
				t.Fatalf("Basis(%v at %d): %d", p, x, e)
			}
			want = append(want, row)
		}
		wantRows(t, p, want, api.OK)
	}
}

func TestRows(t *testing.T) {
	for _, p := range grounds() {
		var want [][]uint64
		for _, x := range workersBy(p) {
			want = append(want, rowBy(p, x))
		}
		wantRows(t, p, want, api.OK)
	}
}

func TestRowsByHand(t *testing.T) {
	for _, f := range sample.Fields() {
		top := sample.Prime(f)
		for _, c := range []struct {
			n, k, t int
			rows    [][]uint64
		}{
			{1, 1, 0, [][]uint64{l(1)}},
			{3, 1, 0, [][]uint64{l(1), l(1), l(1)}},
			{3, 1, 1, [][]uint64{l(top-1, 2), l(top-2, 3), l(top-3, 4)}},
			{3, 2, 0, [][]uint64{l(top-1, 2), l(top-2, 3), l(top-3, 4)}},
			{4, 2, 1, [][]uint64{l(1, top-3, 3), l(3, top-8, 6), l(6, top-15, 10), l(10, top-24, 15)}},
			{2, 1, 3, [][]uint64{l(top-1, 4, top-6, 4), l(top-4, 15, top-20, 10)}},
		} {
			wantRows(t, sample.With(sample.Plan(c.n, c.k, c.t, 0, 0, 1), f, 1), c.rows, api.OK)
		}
	}
}

// The examples of the chapter.

func TestExamples(t *testing.T) {
	p := sample.Plan(4, 2, 1, 0, 0, 1)
	wantPoints(t, p, l(0, 1), l(2), l(3, 4, 5, 6), api.OK)
	wantWorker(t, p, 4, 1, true, api.OK)
	wantWorker(t, p, 2, 0, false, api.OK)
	wantWorker(t, p, 2013265921, 0, false, api.ErrArg)
	if rows, e := Rows(p); e != api.OK || len(rows) != 4 || !slices.Equal(rows[0], l(1, 2013265918, 3)) {
		t.Errorf("Rows(%v) = %v, %d", p, rows, e)
	}
}
