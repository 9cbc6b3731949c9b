package sample

import (
	"bytes"
	"slices"

	"conclave/api"
)

// Bytes are n bytes without any order, some others for each number from.
func Bytes(from, n int) []byte {
	b := make([]byte, n)
	for i, a := range Scattered(api.Large, from+n)[from:] {
		b[i] = byte(a >> 20)
	}
	return b
}

// Turned are bytes with one of them turned, at each place, in several ways.
func Turned(b []byte) [][]byte {
	var all [][]byte
	for at := range b {
		for _, turn := range []byte{1, 3, 128, 255} {
			c := slices.Clone(b)
			c[at] ^= turn
			all = append(all, c)
		}
	}
	return all
}

// Garbled are other bytes than b, made of them: with one turned at each place, cut at each place, with something ahead of them or behind; and none at all.
func Garbled(b []byte) [][]byte {
	all := append(Turned(b), nil, []byte{}, []byte{0}, []byte{1}, make([]byte, len(b)))
	for cut := range b {
		all = append(all, slices.Clone(b[:cut]), slices.Clone(b[cut+1:]))
	}
	for _, more := range [][]byte{{0}, {1}, {255}, make([]byte, api.BlockSize), b} {
		all = append(all, slices.Concat(b, more), slices.Concat(more, b))
	}
	return slices.DeleteFunc(all, func(c []byte) bool { return bytes.Equal(b, c) })
}
