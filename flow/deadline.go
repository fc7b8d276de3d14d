package flow

import (
	"math"

	"ferrybridge/api"
)

// deadline is so many ticks behind one; or none, if it isn't behind it. The tick itself isn't kept, as it may be beyond the greatest int.
type deadline struct{ from, wait int }

// is tells whether there is one.
func (d deadline) is() bool {
	return d.wait > 0
}

// at answers the deadline's tick, or the greatest int, if that is less; false, if there is none.
func (d deadline) at() (int, bool) {
	if !d.is() {
		return 0, false
	}
	return min(d.from, math.MaxInt-d.wait) + d.wait, true
}

// reached tells whether tick is the deadline's, or behind it.
func (d deadline) reached(tick int) bool {
	return d.is() && ticks(d.from, tick) >= d.wait
}

// ticks answers how many it is from one tick to a later one, or the greatest int, if that is less.
func ticks(from, to int) int {
	if to <= from {
		return 0
	}
	// Without sign, as they may be further apart than the greatest int.
	return int(min(uint(to)-uint(from), math.MaxInt))
}

// Expire does what is due at the deadline, or behind it, and answers what it brought.
func (f *Flow) Expire(tick int) api.Heard {
	if f == nil || !f.due.reached(tick) {
		return api.Heard{}
	}
	if f.state == api.FTimeWait {
		f.end(api.FDone)
		return api.Heard{}
	}
	f.tries++
	if f.tries > api.MaxTries {
		f.end(api.FDead)
		return api.Heard{Dead: true}
	}
	f.Back()
	f.sendAgain(tick)
	return api.Heard{}
}
