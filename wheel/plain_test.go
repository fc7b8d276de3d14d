package wheel_test

import (
	"cmp"
	"maps"
	"math"
	"slices"
	"testing"

	"ferrybridge/api"
	"ferrybridge/wheel"
)

const (
	latest = 1 << 40
	far    = 4096
	most   = 10000
)

// edges are distances about the ends of lists and turns of each ring.
var edges = []int{1, 2, 3, 14, 15, 16, 17, 18, 31, 32, 33, 100, 239, 240, 241, 254, 255, 256, 257, 258, 271, 272, 273, 511, 512, 513, 1000, 3839, 3840, 3841, 4079, 4080, 4081, 4094, 4095, 4096}

// starts are ticks that stand at the ends, and in the middle, of each ring's lists and turns.
var starts = []int{0, 1, 2, 7, 14, 15, 16, 17, 100, 239, 240, 241, 250, 254, 255, 256, 257, 271, 272, 1000, 3839, 3840, 3855, 3856, 4079, 4080, 4094, 4095, 4096, 4097, 4111, 4351, 4352, 8191, 8192, 65535, 65536, 1000003, 1<<20 - 1, 1 << 20, latest - 4097, latest - 256, latest - 1, latest}

// handles are of all sorts, in no order.
var handles = []int{5, -1, math.MaxInt, 0, 1 << 40, math.MinInt, 77, -4096, 1, math.MaxInt - 1, math.MinInt + 1}

// dice are numbers of all sorts, always the same.
type dice uint64

func (d *dice) below(n int) int {
	*d = *d*6364136223846793005 + 1442695040888963407
	return int(uint64(*d)>>33) % n
}

// plain is timers in the plainest way: all are gone through each time.
type plain struct {
	now   int
	armed map[int]int
}

func newPlain(tick int) *plain {
	return &plain{now: min(max(tick, 0), latest), armed: map[int]int{}}
}

func (p *plain) arm(handle, tick int) api.Errno {
	if tick <= p.now || tick > p.now+far {
		return api.ErrArg
	}
	p.armed[handle] = tick
	return api.OK
}

func (p *plain) cancel(handles ...int) int {
	was := len(p.armed)
	for _, h := range handles {
		delete(p.armed, h)
	}
	return was - len(p.armed)
}

func (p *plain) advance(tick int) []wheel.Due {
	p.now = max(p.now, min(tick, p.now+most))
	var l []wheel.Due
	for h, at := range p.armed {
		if at <= p.now {
			l = append(l, wheel.Due{Handle: h, Tick: at})
		}
	}
	for _, d := range l {
		delete(p.armed, d.Handle)
	}
	slices.SortFunc(l, func(a, b wheel.Due) int {
		return cmp.Or(cmp.Compare(a.Tick, b.Tick), cmp.Compare(a.Handle, b.Handle))
	})
	return l
}

func (p *plain) next() (int, bool) {
	if len(p.armed) == 0 {
		return 0, false
	}
	return slices.Min(slices.Collect(maps.Values(p.armed))), true
}

// both is a wheel, and the same in the plainest way: each call is asked of both.
type both struct {
	t *testing.T
	w *wheel.Wheel
	p *plain
}

func newBoth(t *testing.T, tick int) both {
	t.Helper()
	b := both{t, wheel.New(tick), newPlain(tick)}
	b.look()
	return b
}

func (b both) arm(handle, tick int) {
	b.t.Helper()
	if got, want := b.w.Arm(handle, tick), b.p.arm(handle, tick); got != want {
		b.t.Errorf("at %d: Arm(%d, %d): %d, not %d", b.p.now, handle, tick, got, want)
	}
}

func (b both) cancel(handles ...int) {
	b.t.Helper()
	if got, want := b.w.Cancel(handles...), b.p.cancel(handles...); got != want {
		b.t.Errorf("at %d: Cancel(%d): %d, not %d", b.p.now, handles, got, want)
	}
}

func (b both) advance(tick int) {
	b.t.Helper()
	from := b.p.now
	if got, want := b.w.Advance(tick), b.p.advance(tick); !slices.Equal(got, want) {
		b.t.Errorf("at %d: Advance(%d): %v, not %v", from, tick, got, want)
	}
	b.glance()
}

// glance asks all that tells of no handle.
func (b both) glance() {
	b.t.Helper()
	if got := b.w.Now(); got != b.p.now {
		b.t.Errorf("Now: %d, not %d", got, b.p.now)
	}
	if got := b.w.Len(); got != len(b.p.armed) {
		b.t.Errorf("at %d: Len: %d, not %d", b.p.now, got, len(b.p.armed))
	}
	got, is := b.w.Next()
	if want, wants := b.p.next(); got != want || is != wants {
		b.t.Errorf("at %d: Next: %d, %v, not %d, %v", b.p.now, got, is, want, wants)
	}
}

// at asks of one handle.
func (b both) at(handle int) {
	b.t.Helper()
	got, is := b.w.At(handle)
	if want, wants := b.p.armed[handle]; got != want || is != wants {
		b.t.Errorf("at %d: At(%d): %d, %v, not %d, %v", b.p.now, handle, got, is, want, wants)
	}
}

// look asks all that tells, and changes nothing, of each handle that is armed, and of some others.
func (b both) look() {
	b.t.Helper()
	b.glance()
	for h := range b.p.armed {
		b.at(h)
	}
	for _, h := range handles {
		b.at(h)
		b.at(h + 1)
	}
}

// end lets time go on till nothing is armed, and beyond: nothing is due any more.
func (b both) end() {
	b.t.Helper()
	b.advance(b.p.now + far)
	b.look()
	b.advance(math.MaxInt)
	b.look()
}
