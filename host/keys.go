package host

import (
	"ferrybridge/api"
	"ferrybridge/key"
)

// tries is how many keys are drawn for one token.
const tries = 4

// keys are those that may be drawn.
type keys struct {
	primed []uint64
	seed   uint64
	// drawn is how many were that hang on the seed.
	drawn uint64
}

// draw is the next key.
func (k *keys) draw() uint64 {
	if len(k.primed) > 0 {
		first := k.primed[0]
		k.primed = k.primed[1:]
		return first
	}
	k.drawn++
	return key.Proof(k.seed, k.drawn, 0, 0)
}

// take gives the token of a key that is drawn to the next handle.
func (h *Host) take() (uint64, api.Errno) {
	handle := h.made + 1
	// Without a key, so that none is drawn where there is no room.
	key, _, e := h.table.Take(handle)
	for n := 0; n < tries && e == api.ErrNone; n++ {
		key, _, e = h.table.Take(handle, h.draw())
	}
	return key, e
}
