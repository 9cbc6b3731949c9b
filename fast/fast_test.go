package fast

import (
	"math"
	"math/big"
	"slices"
	"strconv"
	"testing"

	"conclave/api"
	"conclave/field"
	"conclave/poly"
	"conclave/sample"
)

func l(a ...uint64) []uint64 { return a }

// The reference: the same things by the words of the chapter, by the calls of the layers below.

// rootBy is the field's root of the log n, by big numbers.
func rootBy(f api.Field, log int) uint64 {
	base := map[api.Field]uint64{api.Small: 31, api.Large: 7}[f]
	prime := new(big.Int).SetUint64(sample.Prime(f))
	exponent := new(big.Int).SetUint64((sample.Prime(f) - 1) >> log)
	return exponent.Exp(new(big.Int).SetUint64(base), exponent, prime).Uint64()
}

func plus(f api.Field, a, b uint64) uint64 {
	c, _ := field.Add(f, a, b)
	return c
}

func times(f api.Field, a, b uint64) uint64 {
	c, _ := field.Mul(f, a, b)
	return c
}

// transformBy takes the value at each power of the root by itself.
func transformBy(f api.Field, log int, p []uint64) []uint64 {
	values := make([]uint64, 1<<log)
	w, power := rootBy(f, log), uint64(1)
	for i := range values {
		values[i], _ = poly.Eval(f, p, power)
		power = times(f, power, w)
	}
	return values
}

func roundBy(f api.Field, a, b []uint64) []uint64 {
	n := len(a)
	product := make([]uint64, n)
	for i := range a {
		for j := range b {
			k := i + j
			if k >= n {
				k -= n
			}
			product[k] = plus(f, product[k], times(f, a[i], b[j]))
		}
	}
	return product
}

func powerBy(f api.Field, p []uint64, n int) []uint64 {
	product := l(1)
	for range n {
		product, _ = poly.Mul(f, product, p)
	}
	return product
}

type unary func(f api.Field, p []uint64) ([]uint64, api.Errno)

// binary is a call that makes one list of two.
type binary func(f api.Field, p, q []uint64) ([]uint64, api.Errno)

func want(t *testing.T, what string, do binary, f api.Field, p, q, answer []uint64, e api.Errno) {
	t.Helper()
	if x, r := do(f, p, q); !slices.Equal(x, answer) || r != e {
		t.Errorf("%s(%d, %s, %s) = %s, %d, not %s, %d", what, f, sample.Brief(p), sample.Brief(q), sample.Brief(x), r, sample.Brief(answer), e)
	}
}

func wantOne(t *testing.T, what string, do unary, f api.Field, p, answer []uint64, e api.Errno) {
	t.Helper()
	if x, r := do(f, p); !slices.Equal(x, answer) || r != e {
		t.Errorf("%s(%d, %s) = %s, %d, not %s, %d", what, f, sample.Brief(p), sample.Brief(x), r, sample.Brief(answer), e)
	}
}

func wantPower(t *testing.T, f api.Field, p []uint64, n int, answer []uint64, e api.Errno) {
	t.Helper()
	wantOne(t, "Power to "+strconv.Itoa(n), func(f api.Field, p []uint64) ([]uint64, api.Errno) { return Power(f, p, n) }, f, p, answer, e)
}

// wantProduct holds Kara and Mul against poly.Mul, both ways round.
func wantProduct(t *testing.T, f api.Field, p, q []uint64) {
	t.Helper()
	answer, e := poly.Mul(f, p, q)
	for what, do := range map[string]binary{"Kara": Kara, "Mul": Mul} {
		want(t, what, do, f, p, q, answer, e)
		want(t, what, do, f, q, p, answer, e)
	}
}

// tops has n times the field's greatest element, whose products and sums are the furthest past the prime.
func tops(f api.Field, n int) []uint64 {
	return slices.Repeat(l(sample.Prime(f)-1), n)
}

// forTransforms are lists of 2^log elements: noughts alone, a single element at the front and at the end, all the same, some without any order.
func forTransforms(f api.Field, log int) [][]uint64 {
	n := 1 << log
	return [][]uint64{
		make([]uint64, n), sample.Padded(l(1), n), sample.Padded(l(sample.Prime(f)-1), n), sample.Power(n - 1),
		slices.Repeat(l(1), n), tops(f, n), sample.Run(f, log, n), sample.Padded(sample.Run(f, log, (n+1)/2), n),
	}
}

// P4.1

func TestProducts(t *testing.T) {
	for _, f := range sample.Fields() {
		for _, p := range sample.Polys(f) {
			for _, q := range sample.Polys(f) {
				wantProduct(t, f, p, q)
			}
		}
	}
}

func TestProductsOfAllShortLengths(t *testing.T) {
	for _, f := range sample.Fields() {
		for n := range 80 {
			for m := range n + 1 {
				wantProduct(t, f, sample.Run(f, n, n), sample.Run(f, 100+m, m))
			}
		}
	}
}

func TestProductsOfLongerLengths(t *testing.T) {
	for _, f := range sample.Fields() {
		for _, c := range [][2]int{
			{127, 128}, {128, 128}, {128, 129}, {129, 129}, {255, 257}, {256, 256}, {256, 257}, {100, 1000}, {33, 1000}, {64, 1000}, {65, 1000}, {500, 525}, {500, 526},
		} {
			wantProduct(t, f, sample.Run(f, 1, c[0]), sample.Run(f, 70, c[1]))
			wantProduct(t, f, tops(f, c[0]), tops(f, c[1]))
			wantProduct(t, f, sample.Power(c[0]-1), sample.Power(c[1]-1))
		}
	}
}

// Noughts at the end count for nothing; noughts within make halves that are shorter than others, or 0.
func TestProductsOfListsWithNoughts(t *testing.T) {
	for _, f := range sample.Fields() {
		for _, n := range []int{33, 40, 64, 66, 100, 150, 300} {
			p, q := sample.Run(f, n, n), sample.Run(f, 2*n, n)
			wantProduct(t, f, sample.Padded(p, 2*n), q)
			wantProduct(t, f, sample.Padded(p, 4096), sample.Padded(q, 4096))
			wantProduct(t, f, p, make([]uint64, n))
			wantProduct(t, f, make([]uint64, n), make([]uint64, n))
			for _, cut := range [][2]int{{0, n / 2}, {n / 4, n / 2}, {n / 2, n - 1}, {1, n - 1}} {
				gap := slices.Clone(p)
				clear(gap[cut[0]:cut[1]])
				wantProduct(t, f, gap, q)
				wantProduct(t, f, gap, gap)
			}
		}
	}
}

// The sum of two halves may be 0, and so may its product with another, while the halves are not.
func TestProductsOfHalvesThatAreOpposite(t *testing.T) {
	for _, f := range sample.Fields() {
		for _, n := range []int{33, 40, 64, 100, 150} {
			half := sample.Run(f, n, n)
			opposite, _ := poly.Sub(f, nil, half)
			p := append(slices.Clone(half), opposite...)
			wantProduct(t, f, p, p)
			wantProduct(t, f, p, sample.Run(f, 5, 2*n))
			wantProduct(t, f, p, sample.Run(f, 5, 2*n-1))
		}
	}
}

func TestProductsAtTheLimit(t *testing.T) {
	for _, f := range sample.Fields() {
		for _, n := range []int{1, 2, 3, 32, 33, 64, 65, 1000, 2048, 4095, 4096} {
			p, q := sample.Power(n-1), sample.Run(f, 8, 4097-n)
			product := append(make([]uint64, n-1), q...)
			for what, do := range map[string]binary{"Kara": Kara, "Mul": Mul} {
				want(t, what, do, f, p, q, product, api.OK)
				want(t, what, do, f, q, p, product, api.OK)
				// The product must not be too long, the lists may have as many noughts at the end as they like.
				want(t, what, do, f, sample.Padded(p, 4096), sample.Padded(q, 4096), product, api.OK)
				if n > 1 {
					more := sample.Run(f, 8, 4098-n)
					want(t, what, do, f, p, more, nil, api.ErrLimit)
					want(t, what, do, f, more, p, nil, api.ErrLimit)
				}
			}
		}
		wantProduct(t, f, sample.Run(f, 1, 2048), sample.Run(f, 9, 2049))
		wantProduct(t, f, sample.Run(f, 1, 4096), sample.Run(f, 9, 4096))
		wantProduct(t, f, sample.Run(f, 1, 4096), make([]uint64, 4096))
		wantProduct(t, f, sample.Run(f, 1, 4096), l(3, 0))
	}
}

// P4.2

func TestTransformsAndBack(t *testing.T) {
	for _, f := range sample.Fields() {
		for log := range 9 {
			for _, p := range forTransforms(f, log) {
				values := transformBy(f, log, p)
				wantOne(t, "Transform", Transform, f, p, values, api.OK)
				wantOne(t, "Back", Back, f, values, p, api.OK)
			}
		}
	}
}

func TestLongestTransforms(t *testing.T) {
	for _, f := range sample.Fields() {
		for log := 9; log <= 12; log++ {
			p := sample.Run(f, 3, 1<<log)
			values := transformBy(f, log, p)
			wantOne(t, "Transform", Transform, f, p, values, api.OK)
			wantOne(t, "Back", Back, f, values, p, api.OK)
		}
	}
}

func TestTransformsOfSingleElements(t *testing.T) {
	for _, f := range sample.Fields() {
		for _, a := range sample.Elements(f) {
			wantOne(t, "Transform", Transform, f, l(a), l(a), api.OK)
			wantOne(t, "Back", Back, f, l(a), l(a), api.OK)
			for _, b := range sample.Edges(f) {
				want(t, "Round", Round, f, l(a), l(b), l(times(f, a, b)), api.OK)
			}
		}
	}
}

// None of these answers is trimmed: noughts stand at their end, where there are any.
func TestTransformsAreNotTrimmed(t *testing.T) {
	for _, f := range sample.Fields() {
		for _, n := range []int{1, 2, 4, 64, 4096} {
			zero, one, all := make([]uint64, n), sample.Padded(l(1), n), slices.Repeat(l(1), n)
			wantOne(t, "Transform", Transform, f, zero, zero, api.OK)
			wantOne(t, "Back", Back, f, zero, zero, api.OK)
			want(t, "Round", Round, f, zero, all, zero, api.OK)
			wantOne(t, "Transform", Transform, f, all, sample.Padded(l(uint64(n)), n), api.OK)
			wantOne(t, "Transform", Transform, f, one, all, api.OK)
			wantOne(t, "Back", Back, f, all, one, api.OK)
			want(t, "Round", Round, f, one, one, one, api.OK)
		}
	}
}

func TestRound(t *testing.T) {
	for _, f := range sample.Fields() {
		for log := range 7 {
			for _, a := range forTransforms(f, log) {
				for _, b := range forTransforms(f, log) {
					want(t, "Round", Round, f, a, b, roundBy(f, a, b), api.OK)
				}
			}
		}
		for log := 7; log <= 10; log++ {
			a, b := sample.Run(f, 3, 1<<log), sample.Run(f, 80, 1<<log)
			want(t, "Round", Round, f, a, b, roundBy(f, a, b), api.OK)
		}
	}
}

// Times a power of x, the elements of a list go round by so many places.
func TestLongestRounds(t *testing.T) {
	for _, f := range sample.Fields() {
		b := sample.Run(f, 3, 4096)
		for _, by := range []int{0, 1, 2048, 4095} {
			turned := slices.Concat(b[4096-by:], b[:4096-by])
			want(t, "Round", Round, f, sample.Padded(sample.Power(by), 4096), b, turned, api.OK)
			want(t, "Round", Round, f, b, sample.Padded(sample.Power(by), 4096), turned, api.OK)
		}
	}
}

// P4.3

func TestPower(t *testing.T) {
	for _, f := range sample.Fields() {
		for _, p := range sample.Polys(f) {
			for n := range 18 {
				wantPower(t, f, p, n, powerBy(f, p, n), api.OK)
			}
		}
	}
}

func TestPowerOfNoneAndOfOneFactor(t *testing.T) {
	for _, f := range sample.Fields() {
		for _, p := range append(sample.Polys(f), sample.Run(f, 1, 4096), make([]uint64, 4096), sample.Padded(l(7), 4096)) {
			wantPower(t, f, p, 0, l(1), api.OK)
			wantPower(t, f, p, 1, poly.Trim(p), api.OK)
		}
	}
}

func TestPowerOfDegreesBelowOne(t *testing.T) {
	many := []int{1, 2, 3, 4095, 4096, 1 << 20, math.MaxInt - 1, math.MaxInt}
	for _, f := range sample.Fields() {
		for _, n := range many {
			for _, zero := range [][]uint64{nil, {}, l(0), l(0, 0), make([]uint64, 4096)} {
				wantPower(t, f, zero, n, nil, api.OK)
			}
			for _, a := range sample.NotZero(sample.Edges(f)) {
				power, _ := field.Pow(f, a, uint64(n))
				wantPower(t, f, l(a), n, l(power), api.OK)
				wantPower(t, f, sample.Padded(l(a), 4096), n, l(power), api.OK)
			}
		}
	}
}

func TestPowerAtTheLimit(t *testing.T) {
	for _, f := range sample.Fields() {
		for _, c := range [][2]int{{1, 4095}, {4095, 1}, {3, 1365}, {1365, 3}, {63, 65}, {65, 63}, {15, 273}, {2, 2047}, {4094, 1}} {
			p := sample.Power(c[0])
			wantPower(t, f, p, c[1], sample.Power(c[0]*c[1]), api.OK)
			wantPower(t, f, sample.Padded(p, 4096), c[1], sample.Power(c[0]*c[1]), api.OK)
			for _, n := range []int{c[1] + 1, 2 * c[1], 4096, math.MaxInt / 2, math.MaxInt} {
				wantPower(t, f, p, n, nil, api.ErrLimit)
				wantPower(t, f, sample.Padded(p, 4096), n, nil, api.ErrLimit)
			}
		}
		for _, c := range [][2]int{{1, 4096}, {2, 2048}, {64, 64}, {2048, 2}, {1024, 4}, {4095, 2}} {
			wantPower(t, f, sample.Run(f, 4, c[0]+1), c[1], nil, api.ErrLimit)
		}
	}
}

// Of 1 and x, the power's elements are those of the triangle, each the sum of two of the power below.
func TestPowersOfTwoSummands(t *testing.T) {
	for _, f := range sample.Fields() {
		row := l(1)
		for n := 1; n <= 4095; n++ {
			row = append(row, 0)
			for i := n; i > 0; i-- {
				row[i] = plus(f, row[i], row[i-1])
			}
			if n < 20 || n&(n+1) == 0 || n&(n-1) == 0 || n%500 == 0 {
				wantPower(t, f, l(1, 1), n, row, api.OK)
			}
		}
	}
}

// The chapter's examples

func TestExamples(t *testing.T) {
	const top = 2013265920
	want(t, "Kara", Kara, api.Small, l(1, 1), l(1, top), l(1, 0, top), api.OK)
	want(t, "Mul", Mul, api.Large, l(1, 2), l(3, 4), l(3, 10, 8), api.OK)
	wantOne(t, "Transform", Transform, api.Small, l(1, 2), l(3, top), api.OK)
	wantOne(t, "Back", Back, api.Small, l(3, top), l(1, 2), api.OK)
	wantOne(t, "Transform", Transform, api.Small, l(1, 2, 3), nil, api.ErrShape)
	wantOne(t, "Transform", Transform, api.Small, nil, nil, api.ErrShape)
	want(t, "Round", Round, api.Small, l(1, 2), l(3, 4), l(11, 10), api.OK)
	want(t, "Round", Round, api.Small, l(5), l(7), l(35), api.OK)
	want(t, "Round", Round, api.Small, l(1, 2), l(3), nil, api.ErrShape)
	wantPower(t, api.Small, l(1, 1), 3, l(1, 3, 3, 1), api.OK)
	wantPower(t, api.Large, nil, 0, l(1), api.OK)
	wantPower(t, api.Large, nil, 2, nil, api.OK)
	wantPower(t, api.Small, l(0, 1), 4096, nil, api.ErrLimit)
}
