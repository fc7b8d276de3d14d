package span_test

import (
	"math"
	"testing"

	"ferrybridge/span"
)

// asked holds what Has and Next answer against what is written.
func (b both) asked(n int, has bool, next int) {
	b.t.Helper()
	if got := b.x.Has(n); got != has {
		b.t.Errorf("Has(%d): %v, not %v", n, got, has)
	}
	if got := b.x.Next(n); got != next {
		b.t.Errorf("Next(%d): %d, not %d", n, got, next)
	}
}

// P11.2, Has and Next

func TestHasAndNext(t *testing.T) {
	b := small(t, run{10, 5}, run{16, 1}, run{20, 3})
	for _, c := range []struct {
		n    int
		has  bool
		next int
	}{
		{math.MinInt, false, 0}, {math.MinInt + 1, false, 0}, {-top, false, 0}, {-top + 12, false, 0}, {-12, false, 0}, {-1, false, 0},
		{0, false, 0}, {1, false, 1}, {8, false, 8}, {9, false, 9},
		{10, true, 15}, {11, true, 15}, {12, true, 15}, {13, true, 15}, {14, true, 15},
		{15, false, 15}, {16, true, 17}, {17, false, 17}, {19, false, 19},
		{20, true, 23}, {21, true, 23}, {22, true, 23}, {23, false, 23}, {24, false, 24}, {1000, false, 1000},
		{top - 1, false, top - 1}, {top, false, top}, {top + 1, false, top + 1}, {top + 12, false, top + 12}, {3*top + 20, false, 3*top + 20},
		{math.MaxInt - 1, false, math.MaxInt - 1}, {math.MaxInt, false, math.MaxInt},
	} {
		b.asked(c.n, c.has, c.next)
	}
}

// From below 0 is from 0 on, also where 0 is in the set.
func TestNextFromBelow(t *testing.T) {
	for _, n := range []int{math.MinInt, math.MinInt + 1, -top, -5, -1} {
		small(t).asked(n, false, 0)
		small(t, run{1, 5}).asked(n, false, 0)
		small(t, run{0, 1}).asked(n, false, 1)
		small(t, run{0, 5}, run{6, 2}).asked(n, false, 5)
		small(t, run{-5, 7}).asked(n, false, 2)
		great(t, run{0, top - 1}).asked(n, false, top-1)
		great(t, run{0, top}).asked(n, false, top)
	}
	small(t, run{0, 1}).asked(0, true, 1)
	small(t, run{0, 5}).asked(0, true, 5)
}

func TestNextAtTheTop(t *testing.T) {
	for _, c := range []struct {
		b                      both
		two, one, above, zeros int
	}{
		{small(t), top - 2, top - 1, top, 0},
		{small(t, run{top - 1, 1}), top - 2, top, top, 0},
		{small(t, run{top - 2, 1}), top - 1, top - 1, top, 0},
		{small(t, run{top - 2, 2}), top, top, top, 0},
		{small(t, run{top - 9, 99}), top, top, top, 0},
		{small(t, run{0, 1}, run{top - 1, 1}), top - 2, top, top, 1},
		{great(t, run{0, top - 2}), top - 2, top - 1, top, top - 2},
		{great(t, run{0, top - 1}), top - 1, top - 1, top, top - 1},
		{great(t, run{0, top}), top, top, top, top},
		{great(t, run{1, math.MaxInt}), top, top, top, 0},
		{great(t, run{0, top - 2}, run{top - 1, 1}), top - 2, top, top, top - 2},
	} {
		c.b.asked(top-2, c.b.p.has(top-2), c.two)
		c.b.asked(top-1, c.b.p.has(top-1), c.one)
		c.b.asked(top, false, c.above)
		c.b.asked(0, c.b.p.has(0), c.zeros)
		c.b.asked(top+1, false, top+1)
		c.b.asked(math.MaxInt, false, math.MaxInt)
	}
}

// The set of all numbers, of one put together, and of several.
func TestAllNumbers(t *testing.T) {
	for _, l := range [][]run{{{0, top}}, {{math.MinInt + 5, math.MaxInt}, {0, math.MaxInt}}, {{0, 1 << 31}, {1 << 31, 1 << 31}}, {{7, top}, {3, 4}, {-1, 4}}} {
		b := great(t, l...)
		b.holds(top, run{0, top})
		for _, n := range edges {
			b.asked(n, n >= 0 && n < top, max(n, top))
		}
		b.added(0, top, 0)
		b.added(-1, 5, 0)
		b.added(top-1, 5, 0)
		b.holds(top, run{0, top})
	}
}

// P11.2, Runs and Many

// They rise, and none touches the next one, whatever is added ahead of them and behind them, up to 2^32.
func TestRunsAndMany(t *testing.T) {
	b := great(t)
	b.holds(0)
	b.added(1<<31, 2, 2)
	b.holds(2, run{1 << 31, 2})
	b.added(1<<31-2, 1, 1)
	b.holds(3, run{1<<31 - 2, 1}, run{1 << 31, 2})
	b.added(1<<31-1, 1, 1)
	b.holds(4, run{1<<31 - 2, 4})
	b.added(top-3, 1, 1)
	b.added(top-1, 1, 1)
	b.holds(6, run{1<<31 - 2, 4}, run{top - 3, 1}, run{top - 1, 1})
	b.added(0, 1, 1)
	b.added(2, 1, 1)
	b.holds(8, run{0, 1}, run{2, 1}, run{1<<31 - 2, 4}, run{top - 3, 1}, run{top - 1, 1})
	b.added(top-2, 1, 1)
	b.added(1, 1, 1)
	b.holds(10, run{0, 3}, run{1<<31 - 2, 4}, run{top - 3, 3})
	b.added(3, 1<<31-5, 1<<31-5)
	b.holds(1<<31+5, run{0, 1<<31 + 2}, run{top - 3, 3})
	b.added(1<<31+2, 1<<31-5, 1<<31-5)
	b.holds(top, run{0, top})
}

// nil

func TestNil(t *testing.T) {
	var s *span.Set
	for _, n := range edges {
		for _, m := range edges {
			if got := s.Add(n, m); got != 0 {
				t.Errorf("Add(%d, %d): %d", n, m, got)
			}
		}
		if got := s.Drop(n); got != 0 {
			t.Errorf("Drop(%d): %d", n, got)
		}
		if s.Has(n) {
			t.Errorf("Has(%d)", n)
		}
		if got := s.Next(n); got != n {
			t.Errorf("Next(%d): %d", n, got)
		}
	}
	if l, n := s.Runs(), s.Many(); len(l) != 0 || n != 0 {
		t.Error(l, n)
	}
}

// Random sets, held against a plain way number by number

func TestSmallNumbers(t *testing.T) {
	for seed := range 40 {
		d, b, base := dice(seed), small(t), []int{0, top - 50, 1<<31 - 25}[seed%3]
		for range 300 {
			b.something(&d, base+d.below(60)-5, d.below(8)-1)
			for n := base - 6; n < base+70; n++ {
				b.ask(n)
			}
			b.look()
		}
	}
}

// and run by run

func TestGreatNumbers(t *testing.T) {
	for seed := range 40 {
		d, b := dice(seed+100), great(t)
		for range 60 {
			from := d.below(1<<31)*2 + d.below(4) - 2
			if l := b.p.runs(); len(l) > 0 && d.below(2) == 0 {
				r := l[d.below(len(l))]
				from = r.From + d.below(2)*r.Long + d.below(5) - 2
			}
			b.something(&d, from, d.below(1<<uint(1+d.below(30))))
			b.look()
		}
		for range 20 {
			b.something(&d, edges[d.below(len(edges))], edges[d.below(len(edges))])
			b.look()
		}
	}
}

// something is a call, whichever the dice tell.
func (b both) something(d *dice, from, long int) {
	b.t.Helper()
	switch d.below(12) {
	case 0:
		b.drop(from)
	case 1:
		b.ask(from)
	default:
		b.add(from, long)
	}
}
