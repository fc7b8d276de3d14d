package wheel_test

import (
	"math"
	"slices"
	"testing"

	"ferrybridge/api"
	"ferrybridge/wheel"
)

// dues are handles and ticks, by twos.
func dues(l ...int) []wheel.Due {
	var all []wheel.Due
	for two := range slices.Chunk(l, 2) {
		all = append(all, wheel.Due{Handle: two[0], Tick: two[1]})
	}
	return all
}

// told holds what Advance answers against what is written.
func told(t *testing.T, w *wheel.Wheel, tick int, want []wheel.Due) {
	t.Helper()
	from := w.Now()
	if got := w.Advance(tick); !slices.Equal(got, want) {
		t.Errorf("at %d: Advance(%d): %v, not %v", from, tick, got, want)
	}
}

// The chapter's example

func TestExample(t *testing.T) {
	w := wheel.New(0)
	if e, f := w.Arm(1, 5), w.Arm(2, 3); e != api.OK || f != api.OK {
		t.Error(e, f)
	}
	told(t, w, 4, dues(2, 3))
	if at, is := w.At(1); at != 5 || !is || w.Len() != 1 || w.Now() != 4 {
		t.Error(at, is, w.Len(), w.Now())
	}
	told(t, w, 5, dues(1, 5))
}

// P9.1, New

func TestNewIsHeldWithin(t *testing.T) {
	for _, c := range []struct{ tick, want int }{
		{math.MinInt, 0}, {math.MinInt + 1, 0}, {-latest, 0}, {-16, 0}, {-1, 0},
		{0, 0}, {1, 1}, {15, 15}, {16, 16}, {4096, 4096}, {1 << 31, 1 << 31}, {1 << 32, 1 << 32},
		{latest - 1, latest - 1}, {latest, latest}, {latest + 1, latest}, {2 * latest, latest}, {math.MaxInt - 1, latest}, {math.MaxInt, latest},
	} {
		w := wheel.New(c.tick)
		if got := w.Now(); got != c.want {
			t.Errorf("New(%d): at %d, not %d", c.tick, got, c.want)
		}
		if tick, is := w.Next(); tick != 0 || is || w.Len() != 0 {
			t.Errorf("New(%d): %d armed, the first one for %d, %v", c.tick, w.Len(), tick, is)
		}
		if e, f := w.Arm(1, c.want), w.Arm(1, c.want+1); e != api.ErrArg || f != api.OK {
			t.Errorf("New(%d): Arm for its tick %d, for one behind it %d", c.tick, e, f)
		}
		told(t, w, c.want+1, dues(1, c.want+1))
	}
}

// P9.1, Arm

// wrong are ticks that nothing can be armed for from a start.
func wrong(start int) []int {
	l := []int{math.MinInt, math.MinInt + 1, -latest, -4096, -1, start - 4097, start - 4096, start - 256, start - 16, start - 1, start, start + far + 1, start + far + 2, start + 2*far, start + most, start + latest, math.MaxInt - 1, math.MaxInt}
	if start > 0 {
		l = append(l, 0)
	}
	return l
}

func TestArmIsAsWritten(t *testing.T) {
	for _, c := range []struct {
		start, tick int
		want        api.Errno
	}{
		{0, math.MinInt, api.ErrArg}, {0, -1, api.ErrArg}, {0, 0, api.ErrArg}, {0, 1, api.OK}, {0, 16, api.OK}, {0, 4095, api.OK}, {0, 4096, api.OK}, {0, 4097, api.ErrArg}, {0, math.MaxInt, api.ErrArg},
		{250, 249, api.ErrArg}, {250, 250, api.ErrArg}, {250, 251, api.OK}, {250, 4345, api.OK}, {250, 4346, api.OK}, {250, 4347, api.ErrArg},
		{latest, latest, api.ErrArg}, {latest, latest + 1, api.OK}, {latest, latest + 4096, api.OK}, {latest, latest + 4097, api.ErrArg}, {latest, math.MinInt, api.ErrArg}, {latest, math.MaxInt, api.ErrArg},
	} {
		for _, h := range handles {
			w := wheel.New(c.start)
			if e := w.Arm(h, c.tick); e != c.want {
				t.Errorf("at %d: Arm(%d, %d): %d, not %d", c.start, h, c.tick, e, c.want)
			}
			if at, is := w.At(h); is != (c.want == api.OK) || is && at != c.tick || !is && at != 0 {
				t.Errorf("at %d: Arm(%d, %d), then At: %d, %v", c.start, h, c.tick, at, is)
			}
		}
	}
}

func TestArmForEachEdge(t *testing.T) {
	for _, start := range starts {
		for i, d := range edges {
			h := handles[i%len(handles)]
			b := newBoth(t, start)
			b.arm(h, start+d)
			b.look()
			b.advance(start + d - 1)
			b.look()
			b.advance(start + d)
			b.look()
			b.end()
		}
	}
}

// What is refused changes nothing, whether nothing is armed, or the handle, or another one.
func TestWrongTickChangesNothing(t *testing.T) {
	for i, start := range starts {
		for _, tick := range wrong(start) {
			h := handles[i%len(handles)]
			b := newBoth(t, start)
			refused(t, b, h, tick)
			b.arm(h^1, start+20)
			refused(t, b, h, tick)
			b.arm(h, start+300)
			refused(t, b, h, tick)
			b.advance(start + 299)
			b.advance(start + 300)
			b.end()
		}
	}
}

func refused(t *testing.T, b both, handle, tick int) {
	t.Helper()
	if e := b.w.Arm(handle, tick); e != api.ErrArg {
		t.Errorf("at %d: Arm(%d, %d): %d", b.p.now, handle, tick, e)
	}
	b.look()
}

// One that is armed anew is due once, at the new tick: a later one, an earlier one, the same one.
func TestArmAnew(t *testing.T) {
	for _, start := range []int{7, 250, 4095, latest} {
		for _, one := range edges {
			for _, other := range edges {
				b := newBoth(t, start)
				b.arm(3, start+one)
				b.arm(3, start+other)
				b.glance()
				b.at(3)
				b.advance(start + min(one, other))
				b.advance(start + max(one, other))
				b.end()
			}
		}
	}
}

// It may be armed anew when time has gone on, so that it stands further within by then.
func TestArmAnewLater(t *testing.T) {
	for _, start := range []int{0, 9, 255, 4000} {
		for _, on := range edges {
			b := newBoth(t, start)
			b.arm(1, start+far)
			b.arm(2, start+far)
			b.advance(start + on)
			for _, anew := range []int{far, 1, 300, 300, 17, far} {
				b.arm(1, b.p.now+anew)
				b.glance()
				b.at(1)
				b.at(2)
			}
			b.end()
		}
	}
}

// One that was due may be armed again, and is due again then.
func TestArmWhatWasDue(t *testing.T) {
	b := newBoth(t, 250)
	for _, d := range edges {
		b.arm(8, b.p.now+d)
		b.arm(9, b.p.now+1)
		b.advance(b.p.now + d)
		b.look()
	}
	b.end()
}

func TestAnyHandle(t *testing.T) {
	b := newBoth(t, 4090)
	for i, h := range handles {
		b.arm(h, 4090+edges[3*i])
		b.look()
	}
	for range 50 {
		b.advance(b.p.now + 100)
	}
	b.end()
}

// P9.1, Cancel

func TestCancelIsAsWritten(t *testing.T) {
	for _, c := range []struct {
		handles []int
		want    int
		left    []wheel.Due
	}{
		{nil, 0, dues(1, 11, 2, 12, 3, 300, 4, 4000)},
		{[]int{}, 0, dues(1, 11, 2, 12, 3, 300, 4, 4000)},
		{[]int{1}, 1, dues(2, 12, 3, 300, 4, 4000)},
		{[]int{3}, 1, dues(1, 11, 2, 12, 4, 4000)},
		{[]int{4}, 1, dues(1, 11, 2, 12, 3, 300)},
		{[]int{4, 1}, 2, dues(2, 12, 3, 300)},
		{[]int{2, 3, 4, 1}, 4, nil},
		{[]int{2, 2}, 1, dues(1, 11, 3, 300, 4, 4000)},
		{[]int{2, 4, 2, 4, 4}, 2, dues(1, 11, 3, 300)},
		{[]int{9}, 0, dues(1, 11, 2, 12, 3, 300, 4, 4000)},
		{[]int{0, -1, math.MinInt, math.MaxInt, 5}, 0, dues(1, 11, 2, 12, 3, 300, 4, 4000)},
		{[]int{9, 3, 9}, 1, dues(1, 11, 2, 12, 4, 4000)},
	} {
		w := wheel.New(10)
		for _, d := range dues(3, 300, 1, 11, 4, 4000, 2, 12) {
			w.Arm(d.Handle, d.Tick)
		}
		if n := w.Cancel(c.handles...); n != c.want || w.Len() != len(c.left) || w.Now() != 10 {
			t.Errorf("Cancel(%d): %d, not %d; %d are left, at %d", c.handles, n, c.want, w.Len(), w.Now())
		}
		for _, h := range c.handles {
			if at, is := w.At(h); at != 0 || is {
				t.Errorf("Cancel(%d), then At(%d): %d, %v", c.handles, h, at, is)
			}
		}
		if n := w.Cancel(c.handles...); n != 0 {
			t.Errorf("Cancel(%d) once more: %d", c.handles, n)
		}
		told(t, w, 5000, c.left)
	}
}

func TestCancelOfWhatWasDue(t *testing.T) {
	b := newBoth(t, 0)
	b.arm(1, 5)
	b.arm(2, 6)
	b.advance(5)
	b.cancel(1)
	b.cancel(1, 2, 1)
	b.look()
	b.end()
	b.cancel(1, 2)
	b.arm(1, b.p.now+1)
	b.cancel(1)
	b.end()
}

// Of several that stand in one list any of them may be cancelled, at any place, ahead of time's going on or behind it.
func TestCancelAnyOfOneList(t *testing.T) {
	for _, d := range []int{1, 15, 16, 40, 256, 300, 4095, 4096} {
		for _, on := range []int{0, d / 2, d - 1, d} {
			for first := range 5 {
				for second := range 5 {
					b := newBoth(t, 123)
					for h := range 5 {
						b.arm(h, 123+d)
					}
					b.advance(123 + on)
					b.cancel(first)
					b.look()
					b.cancel(second)
					b.look()
					b.end()
				}
			}
		}
	}
}

// What was cancelled may be armed again, for the same tick or another one: it is due once.
func TestArmWhatWasCancelled(t *testing.T) {
	for _, one := range edges {
		for _, other := range []int{one, 1, 16, 256, 4096} {
			b := newBoth(t, 77)
			b.arm(4, 77+one)
			b.arm(5, 77+one)
			b.cancel(4)
			b.arm(4, 77+other)
			b.look()
			b.end()
		}
	}
}

// P9.2

func TestNextStandsInEachRing(t *testing.T) {
	for _, start := range starts {
		b := newBoth(t, start)
		// Each is earlier than all that are armed by then, from the outermost ring to the innermost one.
		for h := len(edges) - 1; h >= 0; h-- {
			b.arm(h, start+edges[h])
			b.look()
		}
		// And each earliest one is cancelled, so that the next one stands ever further out.
		for h := range edges {
			b.cancel(h)
			b.look()
		}
		b.end()
	}
}

// Of several in one list of an outer ring the earliest one is told, in whatever order they were armed.
func TestNextOfOneOuterList(t *testing.T) {
	for _, l := range [][]int{{520, 521, 600}, {600, 521, 520}, {521, 520, 600}, {520, 600, 520}, {36, 35, 34}, {34, 36, 35}} {
		b := newBoth(t, 0)
		for h, tick := range l {
			b.arm(h, tick)
			b.look()
		}
		if tick, is := b.w.Next(); tick != slices.Min(l) || !is {
			t.Errorf("%d: Next: %d, %v", l, tick, is)
		}
		b.end()
	}
}

func TestOfNil(t *testing.T) {
	var w *wheel.Wheel
	for _, n := range []int{math.MinInt, -1, 0, 1, 5000, latest, math.MaxInt} {
		if e, f := w.Arm(n, 1), w.Arm(1, n); e != api.ErrNil || f != api.ErrNil {
			t.Errorf("Arm of %d: %d, %d", n, e, f)
		}
		if l := w.Advance(n); len(l) != 0 {
			t.Errorf("Advance(%d): %v", n, l)
		}
		if at, is := w.At(n); at != 0 || is {
			t.Errorf("At(%d): %d, %v", n, at, is)
		}
		if k := w.Cancel(n, 0, n); k != 0 {
			t.Errorf("Cancel(%d): %d", n, k)
		}
	}
	if n := w.Cancel(); n != 0 {
		t.Error("Cancel:", n)
	}
	if tick, is := w.Next(); tick != 0 || is || w.Now() != 0 || w.Len() != 0 {
		t.Error(tick, is, w.Now(), w.Len())
	}
}
