package root

import (
	"math"
	"math/big"
	"slices"
	"testing"

	"conclave/api"
	"conclave/field"
	"conclave/sample"
)

// logs and bases are the chapter's numbers, written out once more here, so that a wrong one in the layer is seen.
func logs(f api.Field) int {
	return map[api.Field]int{api.Small: 27, api.Large: 32}[f]
}

func bases(f api.Field) uint64 {
	return map[api.Field]uint64{api.Small: 31, api.Large: 7}[f]
}

func power(f api.Field, a, n uint64) uint64 {
	number := func(a uint64) *big.Int { return new(big.Int).SetUint64(a) }
	return new(big.Int).Exp(number(a), number(n), number(sample.Prime(f))).Uint64()
}

func product(t *testing.T, f api.Field, a, b uint64) uint64 {
	x, e := field.Mul(f, a, b)
	if e != api.OK {
		t.Helper()
		t.Fatal(e)
	}
	return x
}

func rootAt(t *testing.T, f api.Field, log int) uint64 {
	x, e := Root(f, log)
	if e != api.OK {
		t.Helper()
		t.Fatalf("Root(%d, %d): %d", f, log, e)
	}
	return x
}

func wantLog(t *testing.T, f api.Field, a uint64, log int, ok bool, e api.Errno) {
	t.Helper()
	if n, k, r := Log(f, a); n != log || k != ok || r != e {
		t.Errorf("Log(%d, %d) = %d, %v, %d, not %d, %v, %d", f, a, n, k, r, log, ok, e)
	}
}

func wantPowers(t *testing.T, f api.Field, a uint64, n int, want []uint64, e api.Errno) {
	t.Helper()
	if l, r := Powers(f, a, n); !slices.Equal(l, want) || r != e {
		t.Errorf("Powers(%d, %d, %d) = %d, %d, not %d, %d", f, a, n, l, r, want, e)
	}
}

func wantFlip(t *testing.T, n, log, want int, e api.Errno) {
	t.Helper()
	if x, r := Flip(n, log); x != want || r != e {
		t.Errorf("Flip(%d, %d) = %d, %d, not %d, %d", n, log, x, r, want, e)
	}
}

// P2.1

func TestTwoOfEveryField(t *testing.T) {
	for n := range 256 {
		f := api.Field(n)
		e := api.OK
		if sample.Prime(f) == 0 {
			e = api.ErrArg
		}
		if log, r := Two(f); log != logs(f) || r != e {
			t.Errorf("Two(%d) = %d, %d, not %d, %d", f, log, r, logs(f), e)
		}
	}
}

func TestRootOfEveryLog(t *testing.T) {
	for _, f := range sample.Fields() {
		for log := range logs(f) + 1 {
			want := power(f, bases(f), (sample.Prime(f)-1)>>log)
			if x, e := Root(f, log); x != want || e != api.OK {
				t.Errorf("Root(%d, %d) = %d, %d, not %d", f, log, x, e, want)
			}
		}
	}
}

func TestRootsComeRoundNoSooner(t *testing.T) {
	for _, f := range sample.Fields() {
		for log := 1; log <= logs(f); log++ {
			x := rootAt(t, f, log)
			if power(f, x, 1<<log) != 1 || power(f, x, 1<<(log-1)) == 1 {
				t.Errorf("Root(%d, %d) = %d is not of the order 2^%d", f, log, x, log)
			}
		}
	}
}

func TestRootOfNoLog(t *testing.T) {
	for _, f := range sample.Fields() {
		for _, log := range []int{logs(f) + 1, logs(f) + 2, 33, 63, 64, 1 << 32, math.MaxInt, -1, -2, -32, math.MinInt} {
			if x, e := Root(f, log); x != 0 || e != api.ErrArg {
				t.Errorf("Root(%d, %d) = %d, %d", f, log, x, e)
			}
		}
	}
	for _, f := range sample.NoFields() {
		for _, log := range []int{0, 1, 27, 32, 33, -1} {
			if x, e := Root(f, log); x != 0 || e != api.ErrArg {
				t.Errorf("Root(%d, %d) = %d, %d", f, log, x, e)
			}
		}
	}
}

// P2.2

func TestLogOfRootsAndTheirPowers(t *testing.T) {
	for _, f := range sample.Fields() {
		for log := range logs(f) + 1 {
			x := rootAt(t, f, log)
			wantLog(t, f, x, log, true, api.OK)
			// What is raised to an odd power keeps its order.
			for _, n := range []uint64{3, 5, 7, 15, 1<<20 + 1, math.MaxUint64} {
				wantLog(t, f, power(f, x, n), log, true, api.OK)
			}
			for down := range log + 1 {
				wantLog(t, f, power(f, x, 1<<down), log-down, true, api.OK)
				wantLog(t, f, power(f, x, 3<<down), log-down, true, api.OK)
			}
		}
	}
}

// oddOrders are elements of every odd order that the field has, but 1, each once.
func oddOrders(f api.Field) []uint64 {
	odd := (sample.Prime(f) - 1) >> logs(f)
	primes := map[api.Field][]uint64{api.Small: {3, 5}, api.Large: {3, 5, 17, 257, 65537}}[f]
	orders := []uint64{1}
	for _, p := range primes {
		for _, n := range slices.Clone(orders) {
			orders = append(orders, n*p)
		}
	}
	var l []uint64
	for _, n := range orders[1:] {
		l = append(l, power(f, bases(f), odd/n<<logs(f)))
	}
	return l
}

func TestLogOfOrdersThatAreNoPowersOfTwo(t *testing.T) {
	for _, f := range sample.Fields() {
		for _, a := range oddOrders(f) {
			for log := range logs(f) + 1 {
				wantLog(t, f, product(t, f, a, rootAt(t, f, log)), 0, false, api.OK)
			}
		}
		// The base's order is the prime less 1.
		wantLog(t, f, bases(f), 0, false, api.OK)
	}
}

func TestLogByDefinition(t *testing.T) {
	for _, f := range sample.Fields() {
		for _, a := range sample.NotZero(sample.Elements(f)) {
			log, ok := 0, power(f, a, 1<<logs(f)) == 1
			for ok && power(f, a, 1<<log) != 1 {
				log++
			}
			wantLog(t, f, a, log, ok, api.OK)
		}
	}
}

func TestLogErrors(t *testing.T) {
	for _, f := range sample.NoFields() {
		for _, a := range []uint64{0, 1, math.MaxUint64} {
			wantLog(t, f, a, 0, false, api.ErrArg)
		}
	}
	for _, f := range sample.Fields() {
		wantLog(t, f, 0, 0, false, api.ErrZero)
		for _, a := range sample.Outside(f) {
			wantLog(t, f, a, 0, false, api.ErrArg)
		}
	}
	wantLog(t, api.Small, sample.Prime(api.Large)-1, 0, false, api.ErrArg)
}

// P2.3

func TestPowers(t *testing.T) {
	for _, f := range sample.Fields() {
		for _, a := range sample.Elements(f) {
			for _, n := range []int{0, 1, 2, 3, 40} {
				want := make([]uint64, n)
				for i := range want {
					want[i] = power(f, a, uint64(i))
				}
				wantPowers(t, f, a, n, want, api.OK)
			}
		}
	}
}

func TestPowersUpToTheLimit(t *testing.T) {
	for _, f := range sample.Fields() {
		for _, a := range []uint64{0, 1, 2, bases(f), sample.Prime(f) - 1, rootAt(t, f, 12), rootAt(t, f, logs(f))} {
			want := []uint64{1}
			for len(want) < api.MaxPoly {
				want = append(want, product(t, f, want[len(want)-1], a))
			}
			wantPowers(t, f, a, 4095, want[:4095], api.OK)
			wantPowers(t, f, a, 4096, want, api.OK)
			for _, n := range []int{4097, 4098, 8192, 1 << 32, math.MaxInt} {
				wantPowers(t, f, a, n, nil, api.ErrLimit)
			}
		}
	}
}

func TestPowersErrors(t *testing.T) {
	lengths := []int{0, 1, 4096, 4097, math.MaxInt, -1, math.MinInt}
	for _, f := range sample.NoFields() {
		for _, n := range lengths {
			wantPowers(t, f, 1, n, nil, api.ErrArg)
		}
	}
	for _, f := range sample.Fields() {
		for _, a := range sample.Outside(f) {
			for _, n := range lengths {
				wantPowers(t, f, a, n, nil, api.ErrArg)
			}
		}
		for _, n := range []int{-1, -2, -4097, math.MinInt} {
			wantPowers(t, f, 1, n, nil, api.ErrArg)
		}
	}
}

// reversed says of each bit by itself where Flip must put it.
func reversed(n, log int) int {
	x := 0
	for i := range log {
		if n&(1<<i) != 0 {
			x += 1 << (log - 1 - i)
		}
	}
	return x
}

// numbers are those below 2^log, all of them if they are few.
func numbers(log int) []int {
	if log <= 10 {
		l := make([]int, 1<<log)
		for i := range l {
			l[i] = i
		}
		return l
	}
	l := []int{0, 1, 2, 3, 1<<log - 3, 1<<log - 2, 1<<log - 1}
	for i := range log {
		l = append(l, 1<<i, 1<<log-1-1<<i)
	}
	for _, a := range sample.Scattered(api.Large, 100) {
		l = append(l, int(a&(1<<log-1)))
	}
	return l
}

func TestFlip(t *testing.T) {
	for log := range 33 {
		for _, n := range numbers(log) {
			wantFlip(t, n, log, reversed(n, log), api.OK)
		}
	}
}

func TestFlipAtTheEdges(t *testing.T) {
	for log := range 33 {
		wantFlip(t, 0, log, 0, api.OK)
		wantFlip(t, 1<<log-1, log, 1<<log-1, api.OK)
		for _, n := range []int{1 << log, 1<<log + 1, 1 << 33, math.MaxInt, -1, -2, math.MinInt} {
			wantFlip(t, n, log, 0, api.ErrArg)
		}
	}
	for _, log := range []int{33, 34, 63, 64, 1 << 32, math.MaxInt, -1, -32, math.MinInt} {
		for _, n := range []int{0, 1, -1, math.MaxInt, math.MinInt} {
			wantFlip(t, n, log, 0, api.ErrArg)
		}
	}
}

// P2.4

func TestRootSquaredIsTheRootBelow(t *testing.T) {
	for _, f := range sample.Fields() {
		for log := 1; log <= logs(f); log++ {
			x := rootAt(t, f, log)
			if y := rootAt(t, f, log-1); product(t, f, x, x) != y {
				t.Errorf("Root(%d, %d) = %d, squared, is not Root(%d, %d) = %d", f, log, x, f, log-1, y)
			}
		}
		if x := rootAt(t, f, 0); x != 1 {
			t.Errorf("Root(%d, 0) = %d", f, x)
		}
		if x := rootAt(t, f, 1); x != sample.Prime(f)-1 {
			t.Errorf("Root(%d, 1) = %d", f, x)
		}
	}
}

// sumOfPowers has the powers of a with the exponents 0 to 2^log - 1 summed up, by halves where they are more than Powers answers: those of the upper half are the lower ones times a to 2^(log-1).
func sumOfPowers(t *testing.T, f api.Field, a uint64, log int) uint64 {
	if 1<<log > api.MaxPoly {
		more, _ := field.Add(f, 1, power(f, a, 1<<(log-1)))
		return product(t, f, sumOfPowers(t, f, a, log-1), more)
	}
	l, e := Powers(f, a, 1<<log)
	if e != api.OK {
		t.Helper()
		t.Fatal(e)
	}
	sum := uint64(0)
	for _, x := range l {
		sum, _ = field.Add(f, sum, x)
	}
	return sum
}

func TestPowersOfARootSumUpToNothing(t *testing.T) {
	for _, f := range sample.Fields() {
		for log := 1; log <= logs(f); log++ {
			x := rootAt(t, f, log)
			for _, a := range []uint64{x, power(f, x, 3), power(f, x, 5)} {
				if sum := sumOfPowers(t, f, a, log); sum != 0 {
					t.Errorf("the 2^%d powers of %d sum up to %d in field %d", log, a, sum, f)
				}
			}
		}
		if sum := sumOfPowers(t, f, rootAt(t, f, 0), 0); sum != 1 {
			t.Errorf("the one power of the root of the log 0 sums up to %d in field %d", sum, f)
		}
	}
}

func TestFlipTwiceIsNothing(t *testing.T) {
	for log := range 33 {
		for _, n := range numbers(log) {
			x, e := Flip(n, log)
			y, r := Flip(x, log)
			if y != n || e != api.OK || r != api.OK {
				t.Errorf("Flip(%d, %d) = %d, %d, and back %d, %d", n, log, x, e, y, r)
			}
		}
	}
}

// Rule 5

func TestAnswersAreNewMemory(t *testing.T) {
	for _, f := range sample.Fields() {
		x, e := Powers(f, 3, 4)
		y, r := Powers(f, 3, 4)
		if e != api.OK || r != api.OK {
			t.Fatalf("Powers(%d, 3, 4): %d, %d", f, e, r)
		}
		for i := range x[:cap(x)] {
			x[:cap(x)][i] = 9
		}
		if want := []uint64{1, 3, 9, 27}; !slices.Equal(y, want) {
			t.Errorf("field %d: two answers share memory: %d", f, y)
		}
		wantPowers(t, f, 3, 4, []uint64{1, 3, 9, 27}, api.OK)
	}
}

// The chapter's examples

func TestExamples(t *testing.T) {
	for _, c := range []struct {
		f    api.Field
		log  int
		want uint64
		e    api.Errno
	}{
		{api.Small, 0, 1, api.OK},
		{api.Small, 1, 2013265920, api.OK},
		{api.Large, 1, 18446744069414584320, api.OK},
		{api.Small, 28, 0, api.ErrArg},
	} {
		if x, e := Root(c.f, c.log); x != c.want || e != c.e {
			t.Errorf("Root(%d, %d) = %d, %d, not %d, %d", c.f, c.log, x, e, c.want, c.e)
		}
	}
	wantLog(t, api.Small, 2013265920, 1, true, api.OK)
	wantLog(t, api.Small, 2, 0, false, api.OK)
	wantLog(t, api.Small, 0, 0, false, api.ErrZero)
	wantLog(t, api.Large, 1, 0, true, api.OK)
	wantPowers(t, api.Small, 3, 4, []uint64{1, 3, 9, 27}, api.OK)
	wantPowers(t, api.Small, 0, 2, []uint64{1, 0}, api.OK)
	wantPowers(t, api.Small, 1, 4097, nil, api.ErrLimit)
	wantFlip(t, 1, 3, 4, api.OK)
	wantFlip(t, 6, 3, 3, api.OK)
	wantFlip(t, 8, 3, 0, api.ErrArg)
	wantFlip(t, 0, 0, 0, api.OK)
}
