package sample

import "conclave/api"

// Bytes are n bytes without any order, some others for each number from.
func Bytes(from, n int) []byte {
	b := make([]byte, n)
	for i, a := range Scattered(api.Large, from+n)[from:] {
		b[i] = byte(a >> 20)
	}
	return b
}
