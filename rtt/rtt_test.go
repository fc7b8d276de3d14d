package rtt_test

import (
	"math"
	"testing"

	"ferrybridge/rtt"
)

// The chapter's example

func TestExample(t *testing.T) {
	b := newBoth(t)
	b.sample(2)
	b.holds(6, 16)
}

// P12.1, the zero Rtt

func TestZeroHasNoSample(t *testing.T) {
	var zero rtt.Rtt
	for _, r := range []*rtt.Rtt{&zero, {}, new(rtt.Rtt)} {
		if r.Wait() != 4 || r.Smooth() != 32 {
			t.Errorf("first: %d, %d", r.Wait(), r.Smooth())
		}
		r.Fresh()
		if r.Wait() != 4 || r.Smooth() != 32 {
			t.Errorf("fresh: %d, %d", r.Wait(), r.Smooth())
		}
	}
}

// P12.1, Sample

func TestFirstSample(t *testing.T) {
	for _, c := range []struct{ ticks, wait, smooth int }{
		{0, 2, 0}, {1, 3, 8}, {2, 6, 16}, {3, 9, 24}, {4, 12, 32}, {5, 15, 40},
		// the wait is held
		{6, 16, 48}, {7, 16, 56}, {16, 16, 128}, {100, 16, 800}, {999, 16, 7992}, {1000, 16, 8000},
		// the sample is held
		{1001, 16, 8000}, {5000, 16, 8000}, {1 << 32, 16, 8000}, {1<<32 + 3, 16, 8000}, {math.MaxInt - 1, 16, 8000}, {math.MaxInt, 16, 8000},
		{-1, 2, 0}, {-2, 2, 0}, {-1000, 2, 0}, {-1 << 32, 2, 0}, {3 - 1<<32, 2, 0}, {math.MinInt + 1, 2, 0}, {math.MinInt, 2, 0},
	} {
		b := newBoth(t)
		b.sample(c.ticks)
		b.holds(c.wait, c.smooth)
	}
}

// told is what is told behind a sample.
type told struct{ ticks, wait, smooth int }

func TestLaterSamples(t *testing.T) {
	for _, l := range [][]told{
		{{2, 6, 16}, {4, 7, 18}, {4, 8, 20}, {4, 9, 22}, {2, 8, 22}, {2, 7, 22}},
		// the variation comes down to 3, of which a quarter is nothing
		{{2, 6, 16}, {2, 5, 16}, {2, 5, 16}, {2, 5, 16}},
		{{1, 3, 8}, {1, 3, 8}, {1, 3, 8}},
		// below the smoothed time, which is rounded down
		{{4, 12, 32}, {1, 12, 29}, {1, 12, 27}, {1, 12, 25}, {1, 11, 23}},
		{{1, 3, 8}, {0, 3, 7}, {0, 3, 7}, {0, 3, 7}, {1, 5, 8}},
		// from 0 on
		{{0, 2, 0}, {0, 2, 0}, {0, 2, 0}, {1, 2, 1}, {0, 2, 1}, {1, 2, 2}, {3, 5, 5}},
		// the smoothed time by itself is more than MaxRto
		{{1000, 16, 8000}, {1000, 16, 8000}, {0, 16, 7000}, {0, 16, 6125}, {math.MaxInt, 16, 6360}, {math.MinInt, 16, 5565}},
	} {
		b := newBoth(t)
		for _, c := range l {
			b.sample(c.ticks)
			b.holds(c.wait, c.smooth)
		}
	}
}

// A later sample is held as the first one is.
func TestLaterSampleIsHeld(t *testing.T) {
	for _, first := range edges {
		for _, c := range []struct{ given, held int }{
			{-1, 0}, {-7, 0}, {-1 << 32, 0}, {math.MinInt, 0}, {math.MinInt + 1, 0},
			{1001, 1000}, {1007, 1000}, {1 << 32, 1000}, {1<<32 + 1, 1000}, {math.MaxInt, 1000}, {math.MaxInt - 1, 1000},
		} {
			one, other := newBoth(t), newBoth(t)
			one.sample(first)
			other.sample(first)
			for range 4 {
				one.sample(c.given)
				other.sample(c.held)
				other.holds(one.x.Wait(), one.x.Smooth())
			}
		}
	}
}

// A sample of 0 is one: what comes behind it is a further one.
func TestSampleOfNothingIsOne(t *testing.T) {
	for _, ticks := range []int{0, -1, math.MinInt} {
		b := newBoth(t)
		b.sample(ticks)
		b.holds(2, 0)
		b.sample(8)
		b.holds(9, 8)
	}
}

// However far the times come up they come down again, and stay where the samples are.
func TestLongSamples(t *testing.T) {
	for _, ticks := range edges {
		b := newBoth(t)
		for _, n := range []int{ticks, 1000, ticks, 0, ticks, 3} {
			for range 60 {
				b.sample(n)
			}
		}
		if smooth := b.x.Smooth(); smooth < 24 || smooth > 31 {
			t.Errorf("behind %d: %d", ticks, smooth)
		}
	}
}

// P12.1, Back and Fresh

func TestBack(t *testing.T) {
	for _, c := range []struct {
		samples []int
		waits   []int
	}{
		{nil, []int{4, 8, 16, 16, 16, 16}},
		{[]int{0}, []int{2, 4, 8, 16, 16, 16}},
		{[]int{1}, []int{3, 6, 12, 16, 16, 16}},
		{[]int{2}, []int{6, 12, 16, 16}},
		{[]int{2, 4}, []int{7, 14, 16, 16}},
		{[]int{2, 2}, []int{5, 10, 16, 16}},
		{[]int{2, 4, 4}, []int{8, 16, 16}},
		{[]int{3}, []int{9, 16, 16}},
		{[]int{5}, []int{15, 16, 16}},
		{[]int{6}, []int{16, 16, 16}},
		{[]int{5000}, []int{16, 16, 16}},
	} {
		b := newBoth(t)
		for _, n := range c.samples {
			b.sample(n)
		}
		smooth := b.p.smooth()
		for range 2 {
			b.holds(c.waits[0], smooth)
			for _, wait := range c.waits[1:] {
				b.back()
				b.holds(wait, smooth)
			}
			b.fresh()
		}
		b.holds(c.waits[0], smooth)
		b.fresh()
		b.holds(c.waits[0], smooth)
	}
}

// What is doubled is the wait as it is held: 1 would be held at 2 still, if it were doubled ahead of that.
func TestWhatIsHeldIsDoubled(t *testing.T) {
	b := newBoth(t)
	b.sample(0)
	b.back()
	b.holds(4, 0)
}

// A sample leaves it doubled as often as it was, be it the first one or a further one.
func TestSampleLeavesItDoubled(t *testing.T) {
	b := newBoth(t)
	b.back()
	b.holds(8, 32)
	b.sample(1)
	b.holds(6, 8)
	b.sample(1)
	b.holds(6, 8)
	b.back()
	b.sample(1)
	b.holds(12, 8)
	b.fresh()
	b.holds(3, 8)
}

// It counts how often it was doubled also while the wait is MaxRto, and couldn't be more.
func TestBackAtTheGreatestWait(t *testing.T) {
	for _, backs := range []int{1, 2, 3, 4, 20} {
		b := newBoth(t)
		b.sample(6)
		for range backs {
			b.back()
			b.holds(16, 48)
		}
		for range 60 {
			b.sample(0)
		}
		b.holds([]int{6, 12, 16}[min(backs-1, 2)], 7)
		b.fresh()
		b.holds(3, 7)
	}
}

// When it was doubled makes no difference to the wait: only how often.
func TestBackAtAnyTime(t *testing.T) {
	for seed := range 300 {
		d := dice(seed)
		one, other := newBoth(t), newBoth(t)
		backs := 0
		for range 12 {
			ticks := d.below(5)
			one.sample(ticks)
			other.sample(ticks)
			if d.below(6) == 0 {
				other.back()
				backs++
			}
			other.holds(min(one.x.Wait()<<backs, 16), one.x.Smooth())
		}
	}
}

// Any number of times ends, and soon.
func TestBackVeryOften(t *testing.T) {
	for _, ticks := range []int{0, 2, 1000} {
		b := newBoth(t)
		b.sample(ticks)
		was := b.x.Wait()
		for range 1 << 22 {
			b.x.Back()
		}
		for range 1 << 10 {
			if wait := b.x.Wait(); wait != 16 {
				t.Fatal(wait)
			}
		}
		b.fresh()
		b.holds(was, 8*ticks)
	}
}

// R1, nil

func TestNil(t *testing.T) {
	var r *rtt.Rtt
	look := func(what string) {
		if r.Wait() != 4 || r.Smooth() != 32 {
			t.Errorf("behind %s: %d, %d", what, r.Wait(), r.Smooth())
		}
	}
	look("nothing")
	for _, ticks := range edges {
		r.Sample(ticks)
		look("Sample")
		r.Back()
		look("Back")
		r.Fresh()
		look("Fresh")
	}
}

// Held against the plain way

// All calls one behind the other, six of eight.
func TestAllShortRuns(t *testing.T) {
	const long, calls = 6, 8
	many := int(math.Pow(calls, long))
	for run := range many {
		b := newBoth(t)
		for n := run; n > 0; n /= calls {
			switch n % calls {
			case 0:
				b.back()
			case 1:
				b.fresh()
			default:
				b.sample(n%calls - 2)
			}
		}
	}
}

// Each two samples that there are, with one behind them.
func TestEachTwoSamples(t *testing.T) {
	for first := -2; first < 1003; first += 5 {
		for second := -3; second < 1003; second += 7 {
			b := newBoth(t)
			b.sample(first)
			b.sample(second)
			b.sample(2)
		}
	}
}

func TestLongRuns(t *testing.T) {
	for seed := range 60 {
		d, b := dice(seed), newBoth(t)
		wide := []int{2, 5, 20, 1010}[seed%4]
		for range 200 {
			b.something(&d, d.below(wide))
		}
		for range 40 {
			b.something(&d, edges[d.below(len(edges))])
		}
	}
}

// R5

// What is asked changes nothing: asked again it is told likewise.
func TestAskingChangesNothing(t *testing.T) {
	for seed := range 30 {
		d, again := dice(seed), dice(seed)
		asked, other := newBoth(t), newBoth(t)
		for range 60 {
			asked.something(&d, d.below(20))
			for range 5 {
				asked.look()
			}
			other.something(&again, again.below(20))
			other.holds(asked.x.Wait(), asked.x.Smooth())
		}
	}
}

// One estimate changes nothing of another one's.
func TestEstimatesAreApart(t *testing.T) {
	d := dice(5)
	all := []both{newBoth(t), newBoth(t), newBoth(t)}
	for range 600 {
		all[d.below(3)].something(&d, d.below(20))
		for _, b := range all {
			b.look()
		}
	}
}
