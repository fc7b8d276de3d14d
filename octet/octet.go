// Package octet is layer 1, numbers as bytes: see shared/doc/01-octet.md.
package octet

import (
	"bytes"
	"slices"

	"ferrybridge/api"
)

// widest is how many bytes the greatest number needs.
const widest = 8

// Put answers b, and behind it n in w bytes.
func Put(b []byte, n uint64, w int) []byte {
	var digits [widest]byte
	for i := range digits {
		digits[widest-1-i] = byte(n >> (8 * i))
	}
	return Join(b, digits[widest-width(w):])
}

// Take answers the number in the first w bytes of b, and what is behind them.
func Take(b []byte, w int) (uint64, []byte, api.Errno) {
	digits, rest, e := Cut(b, width(w))
	if e != api.OK {
		return 0, nil, e
	}
	var n uint64
	for _, d := range digits {
		n = n<<8 | uint64(d)
	}
	return n, rest, api.OK
}

// Cut answers the first n bytes of b, and what is behind them.
func Cut(b []byte, n int) ([]byte, []byte, api.Errno) {
	if n < 0 {
		return nil, nil, api.ErrArg
	}
	if n > len(b) {
		return nil, nil, api.ErrEnd
	}
	// Each part is joined anew, since neither may share memory with b or with the other.
	return Join(b[:n]), Join(b[n:]), api.OK
}

// Join answers all pieces, one behind the other, in memory of their own.
func Join(l ...[]byte) []byte {
	return slices.Concat(l...)
}

// Same tells whether a and b are the same bytes.
func Same(a, b []byte) bool {
	return bytes.Equal(a, b)
}

// width holds w within the widths that a number may have.
func width(w int) int {
	return min(max(w, 1), widest)
}
