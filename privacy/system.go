package privacy

import (
	"math/bits"
	"slices"

	"conclave/api"
	"conclave/points"
)

// modulus is a field's prime. A system takes products of any two elements, and inverses, which none of the layers that this one calls tells.
type modulus uint64

// modulusOf asks what of the first of two data blocks comes to the first worker, if there is no pad: it is 0 less 1, so one less than the prime.
func modulusOf(f api.Field) modulus {
	rows, _ := points.Rows(api.Plan{Field: f, N: 1, K: 2, Width: 1})
	return modulus(rows[0][0] + 1)
}

func (m modulus) times(a, b uint64) uint64 {
	high, low := bits.Mul64(a, b)
	return bits.Rem64(high, low, uint64(m))
}

func (m modulus) less(a, b uint64) uint64 {
	if a < b {
		return uint64(m) - (b - a)
	}
	return a - b
}

// inverse leans on Fermat's: an element that is not 0, to the power of the prime less 1, is 1.
func (m modulus) inverse(a uint64) uint64 {
	product := uint64(1)
	for n := uint64(m) - 2; n > 0; n >>= 1 {
		if n&1 == 1 {
			product = m.times(product, a)
		}
		a = m.times(a, a)
	}
	return product
}

func (m modulus) scale(l []uint64, c uint64) {
	for i := range l {
		l[i] = m.times(l[i], c)
	}
}

// takeOff takes c times the other list off l, which is as long.
func (m modulus) takeOff(l []uint64, c uint64, other []uint64) {
	for i := range l {
		l[i] = m.less(l[i], m.times(c, other[i]))
	}
}

// system is as many equations as there are unknown blocks, all in one list. Each has a factor for every unknown block and, behind these, what the blocks come to by them, place by place.
type system struct {
	modulus
	list           []uint64
	unknown, width int
}

func systemOf(m modulus, unknown, width int) system {
	return system{m, make([]uint64, unknown*(unknown+width)), unknown, width}
}

// row is cut so that it has no room that is the next one's.
func (s system) row(i int) []uint64 {
	size := s.unknown + s.width
	return s.list[i*size : (i+1)*size : (i+1)*size]
}

func (s system) lay(i int, factors, right []uint64) {
	row := s.row(i)
	copy(row, factors)
	copy(row[s.unknown:], right)
}

// solved leaves of each equation one unknown block, and tells what these are. The equation i has a factor of its own when its turn comes: with points that are all unlike, the first equations' factors of as many first blocks are independent, however many these are.
func (s system) solved() [][]uint64 {
	for i := range s.unknown {
		// What stands ahead of the place i is 0 in this row, and so stays as it is in the others.
		row := s.row(i)[i:]
		s.scale(row, s.inverse(row[0]))
		for j := range s.unknown {
			if other := s.row(j)[i:]; j != i {
				s.takeOff(other, other[0], row)
			}
		}
	}
	blocks := make([][]uint64, s.unknown)
	for i := range blocks {
		blocks[i] = slices.Clone(s.row(i)[s.unknown:])
	}
	return blocks
}
