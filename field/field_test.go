package field

import (
	"math"
	"math/big"
	"slices"
	"testing"

	"conclave/api"
	"conclave/sample"
)

func large(a uint64) *big.Int { return new(big.Int).SetUint64(a) }

// by is what a call of big numbers answers, brought down by the prime.
func by(f api.Field, do func(z, a, b *big.Int) *big.Int, a, b uint64) uint64 {
	z := do(new(big.Int), large(a), large(b))
	return z.Mod(z, large(sample.Prime(f))).Uint64()
}

type binary func(f api.Field, a, b uint64) (uint64, api.Errno)

func want(t *testing.T, what string, f api.Field, l []uint64, x uint64, e api.Errno, y uint64, r api.Errno) {
	t.Helper()
	if x != y || e != r {
		t.Errorf("%s(%d, %d) = %d, %d, not %d, %d", what, f, l, x, e, y, r)
	}
}

// good stops a test that leans on a call that answered an error.
func good(t *testing.T) func(x uint64, e api.Errno) uint64 {
	return func(x uint64, e api.Errno) uint64 {
		if e != api.OK {
			t.Helper()
			t.Fatal(e)
		}
		return x
	}
}

// P1.1

func TestPrimeOfEveryField(t *testing.T) {
	for n := range 256 {
		f := api.Field(n)
		p := sample.Prime(f)
		ok := p != 0
		e := api.OK
		if !ok {
			e = api.ErrArg
		}
		x, r := Prime(f)
		want(t, "Prime", f, nil, x, r, p, e)
		if In(f) != ok || In(f, []uint64{}...) != ok || In(f, 0) != ok || In(f, 0, 1) != ok {
			t.Errorf("In(%d), In(%d, 0), In(%d, 0, 1): not all %v", f, f, f, ok)
		}
	}
}

func TestInAtThePrimes(t *testing.T) {
	for _, f := range sample.Fields() {
		for _, a := range sample.Elements(f) {
			if !In(f, a) {
				t.Errorf("In(%d, %d) is false", f, a)
			}
		}
		if !In(f, sample.Elements(f)...) {
			t.Errorf("In(%d) of its elements is false", f)
		}
		for _, a := range sample.Outside(f) {
			for _, l := range [][]uint64{{a}, {a, 0, 1}, {0, a, 1}, {0, 1, a}, {a, a}} {
				if In(f, l...) || In(api.NoField, l...) {
					t.Errorf("In(%d, %d) is true", f, l)
				}
			}
		}
	}
	if In(api.Small, sample.Prime(api.Large)-1) || !In(api.Large, sample.Prime(api.Small)) {
		t.Errorf("In takes the one field for the other")
	}
}

// P1.2

func TestSumsDifferencesProducts(t *testing.T) {
	for _, f := range sample.Fields() {
		l := sample.Elements(f)
		for _, a := range l {
			for _, b := range l {
				ab := []uint64{a, b}
				x, e := Add(f, a, b)
				want(t, "Add", f, ab, x, e, by(f, (*big.Int).Add, a, b), api.OK)
				x, e = Sub(f, a, b)
				want(t, "Sub", f, ab, x, e, by(f, (*big.Int).Sub, a, b), api.OK)
				x, e = Mul(f, a, b)
				want(t, "Mul", f, ab, x, e, by(f, (*big.Int).Mul, a, b), api.OK)
			}
		}
	}
}

func TestPowers(t *testing.T) {
	for _, f := range sample.Fields() {
		p := sample.Prime(f)
		exponents := append([]uint64{0, 1, 2, 3, 63, 64, p - 2, p - 1, p, p + 1, 2*p - 2, 1<<63 - 1, 1 << 63, math.MaxUint64 - 1, math.MaxUint64}, sample.Scattered(api.Large, 20)...)
		for _, a := range sample.Elements(f) {
			for _, n := range exponents {
				power := func(z, a, n *big.Int) *big.Int { return z.Exp(a, n, large(p)) }
				x, e := Pow(f, a, n)
				want(t, "Pow", f, []uint64{a, n}, x, e, by(f, power, a, n), api.OK)
			}
		}
		x, e := Pow(f, 0, 0)
		want(t, "Pow", f, []uint64{0, 0}, x, e, 1, api.OK)
		x, e = Pow(f, 0, math.MaxUint64)
		want(t, "Pow", f, []uint64{0, math.MaxUint64}, x, e, 0, api.OK)
	}
}

func TestPowerIsManyFactors(t *testing.T) {
	for _, f := range sample.Fields() {
		must := good(t)
		for _, a := range sample.Elements(f) {
			product := uint64(1)
			for n := range uint64(40) {
				if x := must(Pow(f, a, n)); x != product {
					t.Errorf("Pow(%d, %d, %d) = %d, not %d", f, a, n, x, product)
				}
				product = must(Mul(f, product, a))
			}
		}
	}
}

// P1.2, P1.3: what is no field, and no element of one, comes first.

func TestWrongArguments(t *testing.T) {
	for what, do := range map[string]binary{"Add": Add, "Sub": Sub, "Mul": Mul, "Div": Div} {
		for _, f := range sample.NoFields() {
			for _, b := range []uint64{0, 1, math.MaxUint64} {
				x, e := do(f, 1, b)
				want(t, what, f, []uint64{1, b}, x, e, 0, api.ErrArg)
			}
		}
		for _, f := range sample.Fields() {
			for _, a := range sample.Outside(f) {
				for _, l := range [][]uint64{{a, 0}, {0, a}, {a, 1}, {1, a}, {a, a}} {
					x, e := do(f, l[0], l[1])
					want(t, what, f, l, x, e, 0, api.ErrArg)
				}
			}
		}
	}
	for what, do := range map[string]func(f api.Field, a uint64) (uint64, api.Errno){
		"Inv":   Inv,
		"Pow 0": func(f api.Field, a uint64) (uint64, api.Errno) { return Pow(f, a, 0) },
		"Pow 5": func(f api.Field, a uint64) (uint64, api.Errno) { return Pow(f, a, 5) },
	} {
		for _, f := range sample.NoFields() {
			for _, a := range []uint64{0, 1, math.MaxUint64} {
				x, e := do(f, a)
				want(t, what, f, []uint64{a}, x, e, 0, api.ErrArg)
			}
		}
		for _, f := range sample.Fields() {
			for _, a := range sample.Outside(f) {
				x, e := do(f, a)
				want(t, what, f, []uint64{a}, x, e, 0, api.ErrArg)
			}
		}
	}
}

// P1.3

func TestInverses(t *testing.T) {
	for _, f := range sample.Fields() {
		for _, b := range sample.NotZero(sample.Elements(f)) {
			inverse := large(b)
			inverse.ModInverse(inverse, large(sample.Prime(f)))
			x, e := Inv(f, b)
			want(t, "Inv", f, []uint64{b}, x, e, inverse.Uint64(), api.OK)
			for _, a := range sample.Elements(f) {
				x, e = Div(f, a, b)
				want(t, "Div", f, []uint64{a, b}, x, e, by(f, (*big.Int).Mul, a, inverse.Uint64()), api.OK)
			}
		}
		x, e := Inv(f, 0)
		want(t, "Inv", f, []uint64{0}, x, e, 0, api.ErrZero)
		for _, a := range sample.Elements(f) {
			x, e = Div(f, a, 0)
			want(t, "Div", f, []uint64{a, 0}, x, e, 0, api.ErrZero)
		}
	}
}

func TestBatch(t *testing.T) {
	for _, f := range sample.Fields() {
		// Longer than MaxPoly: this layer has no limit.
		long := sample.NotZero(sample.Scattered(f, api.MaxPoly+5))
		for _, l := range [][]uint64{nil, {}, {1}, {2}, {sample.Prime(f) - 1}, {5, 5, 5}, sample.NotZero(sample.Edges(f)), long} {
			x, e := Batch(f, l)
			if e != api.OK || len(x) != len(l) {
				t.Fatalf("Batch(%d) of %d elements: %d, %d", f, len(l), len(x), e)
			}
			for i := range l {
				if y, _ := Inv(f, l[i]); x[i] != y {
					t.Errorf("Batch(%d): at %d the inverse of %d is %d, not %d", f, i, l[i], x[i], y)
				}
			}
		}
	}
}

func TestBatchErrors(t *testing.T) {
	for _, f := range sample.Fields() {
		p := sample.Prime(f)
		for _, c := range []struct {
			f api.Field
			l []uint64
			e api.Errno
		}{
			{f, []uint64{0}, api.ErrZero},
			{f, []uint64{0, 1, 2}, api.ErrZero},
			{f, []uint64{1, 0, 2}, api.ErrZero},
			{f, []uint64{1, 2, 0}, api.ErrZero},
			{f, []uint64{p}, api.ErrArg},
			{f, []uint64{0, p}, api.ErrArg},
			{f, []uint64{p, 0}, api.ErrArg},
			{f, []uint64{1, math.MaxUint64, 0}, api.ErrArg},
			{api.NoField, nil, api.ErrArg},
			{api.NoField, []uint64{0}, api.ErrArg},
			{3, []uint64{1}, api.ErrArg},
		} {
			if x, e := Batch(c.f, c.l); len(x) != 0 || e != c.e {
				t.Errorf("Batch(%d, %d) = %d, %d, not %d", c.f, c.l, x, e, c.e)
			}
		}
	}
}

// P1.4

func TestDot(t *testing.T) {
	for _, f := range sample.Fields() {
		top := sample.Prime(f) - 1
		for _, c := range [][2][]uint64{
			{nil, nil}, {{}, nil}, {nil, {}},
			{{0}, {top}}, {{top}, {top}}, {{1, 2}, {3, 4}},
			{{top, top, top}, {top, top, top}},
			{sample.Scattered(f, api.MaxPoly+5), slices.Repeat([]uint64{top}, api.MaxPoly+5)},
			{sample.Elements(f), sample.Scattered(f, len(sample.Elements(f)))},
		} {
			a, b := c[0], c[1]
			sum := new(big.Int)
			for i := range a {
				sum.Add(sum, new(big.Int).Mul(large(a[i]), large(b[i])))
			}
			sum.Mod(sum, large(sample.Prime(f)))
			if x, e := Dot(f, a, b); x != sum.Uint64() || e != api.OK {
				t.Errorf("Dot(%d) of %d elements = %d, %d, not %d", f, len(a), x, e, sum)
			}
		}
		l := sample.Scattered(f, 50)
		if x, e := Dot(f, l, l); e != api.OK || !sameAsSquares(f, l, x) {
			t.Errorf("Dot(%d) of a list and itself = %d, %d", f, x, e)
		}
	}
}

func sameAsSquares(f api.Field, l []uint64, x uint64) bool {
	sum := uint64(0)
	for _, a := range l {
		sum = by(f, (*big.Int).Add, sum, by(f, (*big.Int).Mul, a, a))
	}
	return sum == x
}

func TestDotErrors(t *testing.T) {
	for _, f := range sample.Fields() {
		p := sample.Prime(f)
		for _, c := range []struct {
			f    api.Field
			a, b []uint64
			e    api.Errno
		}{
			{f, []uint64{1}, nil, api.ErrShape},
			{f, nil, []uint64{1}, api.ErrShape},
			{f, []uint64{1, 2}, []uint64{1}, api.ErrShape},
			{f, []uint64{1}, []uint64{1, 0}, api.ErrShape},
			{f, []uint64{p}, nil, api.ErrArg},
			{f, nil, []uint64{p}, api.ErrArg},
			{f, []uint64{1, 2}, []uint64{1, p}, api.ErrArg},
			{f, []uint64{1, p}, []uint64{1, 2}, api.ErrArg},
			{f, []uint64{1}, []uint64{1, 2, math.MaxUint64}, api.ErrArg},
			{api.NoField, nil, nil, api.ErrArg},
			{api.NoField, []uint64{1}, nil, api.ErrArg},
			{3, []uint64{1}, []uint64{1}, api.ErrArg},
		} {
			if x, e := Dot(c.f, c.a, c.b); x != 0 || e != c.e {
				t.Errorf("Dot(%d, %d, %d) = %d, %d, not %d", c.f, c.a, c.b, x, e, c.e)
			}
		}
	}
}

// P1.5

func TestOrderAndGrouping(t *testing.T) {
	for _, f := range sample.Fields() {
		must := good(t)
		add := func(a, b uint64) uint64 { return must(Add(f, a, b)) }
		mul := func(a, b uint64) uint64 { return must(Mul(f, a, b)) }
		l := append(sample.Edges(f), sample.Scattered(f, 5)...)
		for _, a := range l {
			for _, b := range l {
				if add(a, b) != add(b, a) || mul(a, b) != mul(b, a) || must(Sub(f, add(a, b), b)) != a {
					t.Errorf("order: field %d, %d and %d", f, a, b)
				}
				for _, c := range l {
					if add(add(a, b), c) != add(a, add(b, c)) || mul(mul(a, b), c) != mul(a, mul(b, c)) {
						t.Errorf("grouping: field %d, %d, %d and %d", f, a, b, c)
					}
					if mul(a, add(b, c)) != add(mul(a, b), mul(a, c)) {
						t.Errorf("a product of a sum: field %d, %d, %d and %d", f, a, b, c)
					}
				}
			}
		}
	}
}

func TestDotHangsOnNoOrder(t *testing.T) {
	for _, f := range sample.Fields() {
		must := good(t)
		a, b := sample.Elements(f), sample.Scattered(f, len(sample.Elements(f)))
		x := must(Dot(f, a, b))
		if y := must(Dot(f, b, a)); x != y {
			t.Errorf("Dot(%d): %d one way, %d the other", f, x, y)
		}
		slices.Reverse(a)
		slices.Reverse(b)
		if y := must(Dot(f, a, b)); x != y {
			t.Errorf("Dot(%d): %d from the front, %d from the end", f, x, y)
		}
	}
}

func TestPowersOneAndTwoBelowThePrime(t *testing.T) {
	for _, f := range sample.Fields() {
		must := good(t)
		for _, a := range sample.NotZero(sample.Elements(f)) {
			if x := must(Pow(f, a, sample.Prime(f)-1)); x != 1 {
				t.Errorf("Pow(%d, %d, prime - 1) = %d", f, a, x)
			}
			x := must(Inv(f, a))
			if y := must(Pow(f, a, sample.Prime(f)-2)); x != y {
				t.Errorf("Inv(%d, %d) = %d, and the power is %d", f, a, x, y)
			}
			if y := must(Mul(f, a, x)); y != 1 {
				t.Errorf("%d times its inverse %d is %d in field %d", a, x, y, f)
			}
		}
		if x := must(Pow(f, 0, sample.Prime(f)-1)); x != 0 {
			t.Errorf("Pow(%d, 0, prime - 1) = %d", f, x)
		}
	}
}

// Rule 5: what is handed in stays as it is, and what is answered is new memory.

func TestHandedInStays(t *testing.T) {
	for _, f := range sample.Fields() {
		for _, l := range [][]uint64{{}, {1, 2, 3}, {sample.Prime(f) - 1, 5}, {1, 0}, {0, sample.Prime(f)}} {
			a, wholeA := sample.Roomy(l...)
			b, wholeB := sample.Roomy(l...)
			beforeA, beforeB := slices.Clone(wholeA), slices.Clone(wholeB)
			In(f, a...)
			Batch(f, a)
			Dot(f, a, b)
			Dot(f, a, a)
			Dot(f, a, wholeB)
			if !slices.Equal(wholeA, beforeA) || !slices.Equal(wholeB, beforeB) {
				t.Errorf("field %d: %d became %d and %d", f, l, wholeA, wholeB)
			}
		}
	}
}

func TestAnswersAreNewMemory(t *testing.T) {
	for _, f := range sample.Fields() {
		// 1 and the prime less 1 are their own inverses: the very list would be a right answer, but for its memory.
		top := sample.Prime(f) - 1
		l, whole := sample.Roomy(1, top, 1)
		before := slices.Clone(whole)
		x, e := Batch(f, l)
		y, r := Batch(f, l)
		if e != api.OK || r != api.OK || !slices.Equal(x, l) || !slices.Equal(y, l) {
			t.Fatalf("Batch(%d, %d) = %d, %d; %d, %d", f, l, x, e, y, r)
		}
		for i := range x[:cap(x)] {
			x[:cap(x)][i] = 9
		}
		if !slices.Equal(whole, before) || !slices.Equal(y, before[:3]) {
			t.Errorf("field %d: an answer shares memory: %d, %d", f, whole, y)
		}
		for i := range whole {
			whole[i] = 8
		}
		if !slices.Equal(y, before[:3]) || !slices.Equal(x, []uint64{9, 9, 9}) {
			t.Errorf("field %d: an argument shares memory: %d, %d", f, x, y)
		}
	}
}

// The chapter's examples, and the first one of the whole.

func TestExamples(t *testing.T) {
	for _, c := range []struct {
		what string
		do   binary
		f    api.Field
		a, b uint64
		x    uint64
		e    api.Errno
	}{
		{"Add", Add, api.Small, 2013265920, 2, 1, api.OK},
		{"Sub", Sub, api.Large, 0, 1, 18446744069414584320, api.OK},
		{"Mul", Mul, api.Large, 18446744069414584320, 18446744069414584320, 1, api.OK},
		{"Mul", Mul, api.Large, 4294967296, 4294967296, 4294967295, api.OK},
		{"Pow", Pow, api.Small, 2, 31, 134217727, api.OK},
		{"Pow", Pow, api.Large, 0, 0, 1, api.OK},
		{"Div", Div, api.Small, 1, 0, 0, api.ErrZero},
		{"Div", Div, api.Small, 1, 2, 1006632961, api.OK},
	} {
		x, e := c.do(c.f, c.a, c.b)
		want(t, c.what, c.f, []uint64{c.a, c.b}, x, e, c.x, c.e)
	}
	x, e := Inv(api.Small, 2)
	want(t, "Inv", api.Small, []uint64{2}, x, e, 1006632961, api.OK)
	if l, e := Batch(api.Small, []uint64{1, 2}); !slices.Equal(l, []uint64{1, 1006632961}) || e != api.OK {
		t.Errorf("Batch(Small, 1 2) = %d, %d", l, e)
	}
	x, e = Dot(api.Small, []uint64{1, 2}, []uint64{3, 4})
	want(t, "Dot", api.Small, []uint64{1, 2, 3, 4}, x, e, 11, api.OK)
}
