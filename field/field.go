// Package field is layer 1: the two prime fields, see shared/doc/01-field.md.
package field

import (
	"math/bits"

	"conclave/api"
)

const (
	smallPrime = 15<<27 + 1
	largePrime = 1<<64 - 1<<32 + 1
)

// modulus is what a field is: its prime, and whether a product of two of its elements may need more than one word.
type modulus struct {
	prime uint64
	wide  bool
}

func modulusOf(f api.Field) (modulus, bool) {
	switch f {
	case api.Small:
		return modulus{prime: smallPrime}, true
	case api.Large:
		return modulus{prime: largePrime, wide: true}, true
	}
	return modulus{}, false
}

// check is where every call finds its ErrArg: it is not ok, unless f is a field that has all of l.
func check(f api.Field, l ...uint64) (modulus, bool) {
	m, ok := modulusOf(f)
	if !ok || !m.has(l...) {
		return modulus{}, false
	}
	return m, true
}

func (m modulus) has(l ...uint64) bool {
	for _, a := range l {
		if a >= m.prime {
			return false
		}
	}
	return true
}

func (m modulus) add(a, b uint64) uint64 {
	sum, carry := bits.Add64(a, b, 0)
	if carry != 0 || sum >= m.prime {
		// What a carry lost comes back here, as the word wraps round once more.
		sum -= m.prime
	}
	return sum
}

func (m modulus) sub(a, b uint64) uint64 {
	diff, borrow := bits.Sub64(a, b, 0)
	if borrow != 0 {
		diff += m.prime
	}
	return diff
}

func (m modulus) mul(a, b uint64) uint64 {
	high, low := bits.Mul64(a, b)
	if m.wide {
		return m.downLarge(high, low)
	}
	// A product of two elements of Small is below 2^62, so the high word is 0.
	return m.downSmall(low)
}

// downSmall leans on the prime's being 1 more than 15 times 2^27: so much is as good as -1. Of a product of two elements both the quotient and the rest are elements.
func (m modulus) downSmall(low uint64) uint64 {
	const minusOne = 15 << 27
	return m.sub(low%minusOne, low/minusOne)
}

// downLarge leans on the prime's being 2^64 - 2^32 + 1: 2^64 is as good as 2^32 - 1, and 2^96 as -1. The low word may be past the prime, by less than 2^32, but (2^32 - 1) squared is 2^32 short of it: together they are below twice the prime, which is all that add asks for.
func (m modulus) downLarge(high, low uint64) uint64 {
	const half = 1<<32 - 1
	return m.add(m.sub(low, high>>32), (high&half)*half)
}

func (m modulus) power(a, n uint64) uint64 {
	product := uint64(1)
	for n > 0 {
		if n&1 == 1 {
			product = m.mul(product, a)
		}
		a = m.mul(a, a)
		n >>= 1
	}
	return product
}

// inverse goes down Euclid's remainders r and s of the prime and a, which is not 0. Their factors u and v of a change sign at each step, so only their sizes are kept: r times v and s times u are always the prime together, and nothing outgrows a word.
func (m modulus) inverse(a uint64) uint64 {
	r, s := m.prime, a
	u, v := uint64(0), uint64(1)
	minus := false
	for s > 1 {
		q := r / s
		r -= q * s
		u += q * v
		r, s = s, r
		u, v = v, u
		minus = !minus
	}
	if minus {
		return m.prime - v
	}
	return v
}

// inverses takes one inverse, that of all of l's product, and multiplies it apart: l has no 0.
func (m modulus) inverses(l []uint64) []uint64 {
	inv := make([]uint64, len(l))
	product := uint64(1)
	for i, a := range l {
		inv[i] = product
		product = m.mul(product, a)
	}
	rest := m.inverse(product)
	for i := len(l) - 1; i >= 0; i-- {
		inv[i] = m.mul(inv[i], rest)
		rest = m.mul(rest, l[i])
	}
	return inv
}

func Prime(f api.Field) (uint64, api.Errno) {
	m, ok := modulusOf(f)
	if !ok {
		return 0, api.ErrArg
	}
	return m.prime, api.OK
}

func In(f api.Field, l ...uint64) bool {
	_, ok := check(f, l...)
	return ok
}

func Add(f api.Field, a, b uint64) (uint64, api.Errno) {
	m, ok := check(f, a, b)
	if !ok {
		return 0, api.ErrArg
	}
	return m.add(a, b), api.OK
}

func Sub(f api.Field, a, b uint64) (uint64, api.Errno) {
	m, ok := check(f, a, b)
	if !ok {
		return 0, api.ErrArg
	}
	return m.sub(a, b), api.OK
}

func Mul(f api.Field, a, b uint64) (uint64, api.Errno) {
	m, ok := check(f, a, b)
	if !ok {
		return 0, api.ErrArg
	}
	return m.mul(a, b), api.OK
}

// Pow looks at a alone: n counts factors, and may be any number.
func Pow(f api.Field, a, n uint64) (uint64, api.Errno) {
	m, ok := check(f, a)
	if !ok {
		return 0, api.ErrArg
	}
	return m.power(a, n), api.OK
}

func Inv(f api.Field, a uint64) (uint64, api.Errno) {
	return Div(f, 1, a)
}

func Div(f api.Field, a, b uint64) (uint64, api.Errno) {
	m, ok := check(f, a, b)
	if !ok {
		return 0, api.ErrArg
	}
	if b == 0 {
		return 0, api.ErrZero
	}
	return m.mul(a, m.inverse(b)), api.OK
}

func Batch(f api.Field, l []uint64) ([]uint64, api.Errno) {
	m, ok := check(f, l...)
	if !ok {
		return nil, api.ErrArg
	}
	for _, a := range l {
		if a == 0 {
			return nil, api.ErrZero
		}
	}
	return m.inverses(l), api.OK
}

func Dot(f api.Field, a, b []uint64) (uint64, api.Errno) {
	m, ok := check(f, a...)
	if !ok || !m.has(b...) {
		return 0, api.ErrArg
	}
	if len(a) != len(b) {
		return 0, api.ErrShape
	}
	sum := uint64(0)
	for i := range a {
		sum = m.add(sum, m.mul(a[i], b[i]))
	}
	return sum, api.OK
}
