package rtt_test

import (
	"math"
	"testing"

	"ferrybridge/rtt"
)

// edges are samples of all sorts, in no order.
var edges = []int{0, 1000, -1, 1, 1001, math.MaxInt, 2, math.MinInt, 999, 3, -1000, math.MaxInt - 1, 4, math.MinInt + 1, 5, 1 << 32, 16, -1 << 32, 8, 1<<32 + 3, 7, 100}

// dice are numbers of all sorts, always the same.
type dice uint64

func (d *dice) below(n int) int {
	*d = *d*6364136223846793005 + 1442695040888963407
	return int(uint64(*d)>>33) % n
}

// plain is an estimate that only keeps what it has been through, and reckons all of it again whenever it is asked.
type plain struct {
	samples []float64
	backs   int
}

func (p *plain) sample(ticks int) {
	p.samples = append(p.samples, math.Min(math.Max(float64(ticks), 0), 1000))
}

func (p *plain) times() (smooth, variation float64) {
	for i, r := range p.samples {
		if i == 0 {
			smooth, variation = 8*r, 2*r
			continue
		}
		err := r - math.Floor(smooth/8)
		smooth, variation = smooth+err, variation+math.Abs(err)-math.Floor(variation/4)
	}
	return smooth, variation
}

func (p *plain) smooth() int {
	if len(p.samples) == 0 {
		return 32
	}
	smooth, _ := p.times()
	return int(smooth)
}

func (p *plain) wait() int {
	wait := 4.0
	if len(p.samples) > 0 {
		smooth, variation := p.times()
		wait = math.Floor(smooth/8) + math.Max(variation, 1)
		wait = math.Min(math.Max(wait, 2), 16)
	}
	return int(math.Min(wait*math.Pow(2, float64(p.backs)), 16))
}

// both is an estimate, and the same in the plain way: each call is told to both.
type both struct {
	t *testing.T
	x *rtt.Rtt
	p *plain
}

func newBoth(t *testing.T) both {
	t.Helper()
	b := both{t, &rtt.Rtt{}, &plain{}}
	b.look()
	return b
}

func (b both) sample(ticks int) {
	b.t.Helper()
	b.x.Sample(ticks)
	b.p.sample(ticks)
	b.look()
}

func (b both) back() {
	b.t.Helper()
	b.x.Back()
	b.p.backs++
	b.look()
}

func (b both) fresh() {
	b.t.Helper()
	b.x.Fresh()
	b.p.backs = 0
	b.look()
}

// look asks both.
func (b both) look() {
	b.t.Helper()
	if got, want := b.x.Wait(), b.p.wait(); got != want {
		b.t.Errorf("Wait: %d, not %d, behind %v, doubled %d times", got, want, b.p.samples, b.p.backs)
	}
	if got, want := b.x.Smooth(), b.p.smooth(); got != want {
		b.t.Errorf("Smooth: %d, not %d, behind %v", got, want, b.p.samples)
	}
}

// holds holds the estimate against what is written.
func (b both) holds(wait, smooth int) {
	b.t.Helper()
	if got := b.x.Wait(); got != wait {
		b.t.Errorf("Wait: %d, not %d, behind %v, doubled %d times", got, wait, b.p.samples, b.p.backs)
	}
	if got := b.x.Smooth(); got != smooth {
		b.t.Errorf("Smooth: %d, not %d, behind %v", got, smooth, b.p.samples)
	}
	b.look()
}

// something is a call, whichever the dice tell.
func (b both) something(d *dice, ticks int) {
	b.t.Helper()
	switch d.below(8) {
	case 0, 1:
		b.back()
	case 2:
		b.fresh()
	default:
		b.sample(ticks)
	}
}
