package poly

// P3.2, P3.3: the errors, which of them comes first, and what stands beside them.

import (
	"math"
	"strconv"
	"strings"
	"testing"

	"conclave/api"
	"conclave/sample"
)

// brief tells a list that may be long.
func brief(p []uint64) string {
	var b strings.Builder
	for i, a := range p {
		if i == 12 {
			b.WriteString(".. ")
			break
		}
		b.WriteString(strconv.FormatUint(a, 10) + " ")
	}
	return "(" + b.String() + "of " + strconv.Itoa(len(p)) + ")"
}

// calls are the calls that take two polynomials, each as one that answers all its lists.
func calls() map[string]func(f api.Field, p, q []uint64) ([][]uint64, api.Errno) {
	one := func(do binary) func(f api.Field, p, q []uint64) ([][]uint64, api.Errno) {
		return func(f api.Field, p, q []uint64) ([][]uint64, api.Errno) {
			x, e := do(f, p, q)
			return [][]uint64{x}, e
		}
	}
	return map[string]func(f api.Field, p, q []uint64) ([][]uint64, api.Errno){
		"Add": one(Add), "Sub": one(Sub), "Mul": one(Mul), "Into": one(Into),
		"DivMod": func(f api.Field, p, q []uint64) ([][]uint64, api.Errno) {
			x, y, e := DivMod(f, p, q)
			return [][]uint64{x, y}, e
		},
	}
}

// wantError has each call with two polynomials answer e, and nothing beside it.
func wantError(t *testing.T, f api.Field, p, q []uint64, e api.Errno) {
	t.Helper()
	for what, do := range calls() {
		lists, r := do(f, p, q)
		if r != e {
			t.Errorf("%s(%d, %s, %s): %d, not %d", what, f, brief(p), brief(q), r, e)
		}
		for _, x := range lists {
			if len(x) != 0 {
				t.Errorf("%s(%d, %s, %s): %d, and %s beside it", what, f, brief(p), brief(q), r, brief(x))
			}
		}
	}
}

// faulty are lists that are no lists of elements, short ones and ones past the limit.
func faulty(f api.Field) [][]uint64 {
	var lists [][]uint64
	for _, a := range sample.Outside(f) {
		lists = append(lists, l(a), l(a, 1, 2), l(1, a, 2), l(1, 2, a), l(a, 0), l(0, a), l(a, a))
		for _, at := range []int{0, 4095, 4096, 4999} {
			long := make([]uint64, 5000)
			long[at] = a
			lists = append(lists, long)
		}
	}
	return lists
}

// tooLong are lists past the limit, noughts at their end or not.
func tooLong(f api.Field) [][]uint64 {
	return [][]uint64{make([]uint64, 4097), padded(l(3), 4097), sample.Power(4096), scattered(f, 2, 4097), scattered(f, 2, 9000)}
}

func TestNoField(t *testing.T) {
	lists := append([][]uint64{nil, l(0), l(1), l(1, 2), l(math.MaxUint64)}, tooLong(api.Small)...)
	for _, f := range sample.NoFields() {
		for _, p := range lists {
			for _, q := range lists {
				wantError(t, f, p, q, api.ErrArg)
			}
			for _, c := range []uint64{0, 1, math.MaxUint64} {
				want(t, "Scale", scale, f, l(c), p, nil, api.ErrArg)
				wantEval(t, f, p, c, 0, api.ErrArg)
			}
		}
	}
}

func TestNoElement(t *testing.T) {
	for _, f := range sample.Fields() {
		// What is no element comes ahead of a length, and of a divisor 0.
		others := append([][]uint64{nil, l(0), l(0, 0), l(1), l(1, 2)}, tooLong(f)...)
		for _, p := range faulty(f) {
			for _, q := range others {
				wantError(t, f, p, q, api.ErrArg)
				wantError(t, f, q, p, api.ErrArg)
			}
			wantError(t, f, p, p, api.ErrArg)
			for _, c := range []uint64{0, 1, sample.Prime(f)} {
				want(t, "Scale", scale, f, l(c), p, nil, api.ErrArg)
				wantEval(t, f, p, c, 0, api.ErrArg)
			}
		}
		for _, c := range sample.Outside(f) {
			for _, p := range others {
				want(t, "Scale", scale, f, l(c), p, nil, api.ErrArg)
				wantEval(t, f, p, c, 0, api.ErrArg)
			}
		}
	}
	// What is an element of the one field is none of the other.
	wantError(t, api.Small, l(1), l(sample.Prime(api.Large)-1), api.ErrArg)
	wantError(t, api.Small, l(sample.Prime(api.Small)), l(1), api.ErrArg)
	want(t, "Add", Add, api.Large, l(sample.Prime(api.Small)), l(1), l(sample.Prime(api.Small)+1), api.OK)
}

func TestListsPastTheLimit(t *testing.T) {
	for _, f := range sample.Fields() {
		for _, p := range tooLong(f) {
			// A length comes ahead of a divisor 0, whichever of the two is too long.
			for _, q := range [][]uint64{nil, l(0), l(1), l(1, 2), scattered(f, 7, api.MaxPoly)} {
				wantError(t, f, p, q, api.ErrLimit)
				wantError(t, f, q, p, api.ErrLimit)
			}
			wantError(t, f, p, p, api.ErrLimit)
			for _, c := range []uint64{0, 1, sample.Prime(f) - 1} {
				want(t, "Scale", scale, f, l(c), p, nil, api.ErrLimit)
				wantEval(t, f, p, c, 0, api.ErrLimit)
			}
		}
	}
}

func TestListsAtTheLimit(t *testing.T) {
	for _, f := range sample.Fields() {
		for _, p := range [][]uint64{make([]uint64, 4096), padded(l(3), 4096), sample.Power(4095), scattered(f, 2, 4096)} {
			q := scattered(f, 30, 4096)
			want(t, "Add", Add, f, p, q, addBy(f, p, q), api.OK)
			want(t, "Sub", Sub, f, p, q, subBy(f, p, q), api.OK)
			want(t, "Sub", Sub, f, q, p, subBy(f, q, p), api.OK)
			want(t, "Scale", scale, f, l(5), p, mulBy(f, l(5), p), api.OK)
			want(t, "Mul", Mul, f, p, l(5), mulBy(f, p, l(5)), api.OK)
			want(t, "Mul", Mul, f, l(5), p, mulBy(f, p, l(5)), api.OK)
			want(t, "Mul", Mul, f, p, make([]uint64, 4096), nil, api.OK)
			wantEval(t, f, p, 3, evalBy(f, p, 3), api.OK)
			wantDivMod(t, f, p, l(1), Trim(p), nil, api.OK)
			want(t, "Into", Into, f, p, l(0, 1), Trim(p), api.OK)
		}
	}
}

func TestProductsAtTheLimit(t *testing.T) {
	for _, f := range sample.Fields() {
		for _, n := range []int{1, 2, 3, 1000, 2048, 2049, 4095, 4096} {
			p, q := sample.Power(n-1), scattered(f, 8, 4097-n)
			product := append(make([]uint64, n-1), q...)
			want(t, "Mul", Mul, f, p, q, product, api.OK)
			want(t, "Mul", Mul, f, q, p, product, api.OK)
			// Noughts at the end count for nothing: it is the product that must not be too long.
			want(t, "Mul", Mul, f, padded(p, 4096), padded(q, 4096), product, api.OK)
			if n > 1 {
				more := scattered(f, 8, 4098-n)
				want(t, "Mul", Mul, f, p, more, nil, api.ErrLimit)
				want(t, "Mul", Mul, f, more, p, nil, api.ErrLimit)
			}
		}
		p := scattered(f, 8, 4096)
		want(t, "Mul", Mul, f, p, p, nil, api.ErrLimit)
		half := scattered(f, 9, 2048)
		want(t, "Mul", Mul, f, half, half[:2000], mulBy(f, half, half[:2000]), api.OK)
	}
}

func TestIntoAtTheLimit(t *testing.T) {
	for _, f := range sample.Fields() {
		for _, c := range [][2]int{{2, 2048}, {2048, 2}, {64, 64}, {4, 1024}, {1024, 4}, {512, 8}, {4095, 2}, {2, 4095}, {4095, 4095}, {1365, 4}, {241, 17}} {
			p, q := scattered(f, 1, c[0]+1), scattered(f, 2, c[1]+1)
			want(t, "Into", Into, f, p, q, nil, api.ErrLimit)
			want(t, "Into", Into, f, padded(p, 4096), padded(q, 4096), nil, api.ErrLimit)
		}
		for _, c := range [][2]int{{1, 4095}, {63, 65}} {
			p, q := sample.Power(c[0]), sample.Power(c[1])
			want(t, "Into", Into, f, padded(p, 4096), padded(q, 4096), sample.Power(4095), api.OK)
			want(t, "Into", Into, f, padded(q, 4096), padded(p, 4096), sample.Power(4095), api.OK)
		}
	}
}

func TestDivisorZero(t *testing.T) {
	for _, f := range sample.Fields() {
		for _, p := range append(sample.Polys(f), scattered(f, 1, 4096)) {
			for _, q := range [][]uint64{nil, {}, l(0), l(0, 0, 0), make([]uint64, 4096)} {
				wantDivMod(t, f, p, q, nil, nil, api.ErrZero)
			}
			wantDivMod(t, f, p, make([]uint64, 4097), nil, nil, api.ErrLimit)
			wantDivMod(t, f, p, l(0, sample.Prime(f)), nil, nil, api.ErrArg)
		}
	}
}
