package sha

import (
	"encoding/binary"
	"testing"
)

// P3.1: what ends a text that is too long to be kept here tells its length too.
func TestEnding(t *testing.T) {
	for _, long := range []int{0, 1, 31, 32, 55, 56, 63, 64, 65, 119, 120, 8191, 8192, 1<<21 - 1, 1 << 21, 1<<29 - 1, 1 << 29, 1<<29 + 55, 1<<29 + 56, 1<<31 - 1} {
		b := ending(long)
		if len(b) < 9 || len(b) > 72 || (long+len(b))%64 != 0 || b[0] != 0x80 {
			t.Errorf("%d: %x", long, b)
			continue
		}
		for _, zero := range b[1 : len(b)-8] {
			if zero != 0 {
				t.Errorf("%d: %x", long, b)
			}
		}
		if n := binary.BigEndian.Uint64(b[len(b)-8:]); n != 8*uint64(long) {
			t.Errorf("%d: %d bits", long, n)
		}
	}
}
