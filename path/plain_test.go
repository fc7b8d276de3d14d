package path_test

import (
	"math"
	"slices"
	"testing"

	"ferrybridge/api"
	"ferrybridge/path"
)

// edges are numbers of all sorts, of which the first four may be addresses.
var edges = []int{
	0, 1, 2, 3, 4, 5, 7, 8, 9, 15, 16, 17, 64, 1000, -1, -2, -3, -4, -5, -8, -16, 1<<31 - 1, 1 << 31, -1 << 31, 1<<32 - 1, 1 << 32, 1<<32 + 1, 1<<32 + 3, -1 << 32, 3 - 1<<32,
	1 << 62, -1 << 62, math.MaxInt - 3, math.MaxInt - 1, math.MaxInt, math.MinInt, math.MinInt + 1, math.MinInt + 3,
}

// wrong are those of them that may not be.
var wrong = edges[4:]

// near are all addresses, and those beside them.
var near = []int{-1, 0, 1, 2, 3, 4}

// dice are numbers of all sorts, always the same.
type dice uint64

func (d *dice) below(n int) int {
	*d = *d*6364136223846793005 + 1442695040888963407
	return int(uint64(*d)>>33) % n
}

// addr is an address, which seldom may not be.
func (d *dice) addr() int {
	if d.below(20) == 0 {
		return edges[d.below(len(edges))]
	}
	return d.below(4)
}

// plain is a path manager that keeps what it was told in lists, in whatever order it came, and sorts them when it is asked.
type plain struct {
	own, other []int
	pairs      []path.Pair
	most       int
}

// bad tells whether one of l may not be an address.
func bad(l ...int) bool {
	return slices.ContainsFunc(l, func(x int) bool { return !slices.Contains([]int{0, 1, 2, 3}, x) })
}

// without is l, but those that are so.
func without[T any](l []T, is func(T) bool) []T {
	var rest []T
	for _, x := range l {
		if !is(x) {
			rest = append(rest, x)
		}
	}
	return rest
}

// sorted is what is told of l.
func sorted(l []path.Pair) []path.Pair {
	l = slices.Clone(l)
	slices.SortFunc(l, func(x, y path.Pair) int { return 10*x.Own + x.Other - 10*y.Own - y.Other })
	return l
}

func (p *plain) tell(own int) api.Errno {
	switch {
	case bad(own):
		return api.ErrArg
	case slices.Contains(p.own, own):
		return api.ErrTwice
	}
	p.own = append(p.own, own)
	return api.OK
}

func (p *plain) untell(own int) api.Errno {
	switch {
	case bad(own):
		return api.ErrArg
	case !slices.Contains(p.own, own):
		return api.ErrNone
	}
	p.own = without(p.own, func(x int) bool { return x == own })
	return api.OK
}

func (p *plain) told(other int) {
	if !bad(other) && !slices.Contains(p.other, other) {
		p.other = append(p.other, other)
	}
}

func (p *plain) untold(other int) []path.Pair {
	p.other = without(p.other, func(x int) bool { return x == other })
	lost := without(p.pairs, func(x path.Pair) bool { return x.Other != other })
	p.pairs = without(p.pairs, func(x path.Pair) bool { return x.Other == other })
	return sorted(lost)
}

func (p *plain) join(own, other int) api.Errno {
	switch {
	case bad(own, other):
		return api.ErrArg
	case !slices.Contains(p.own, own) || !slices.Contains(p.other, other):
		return api.ErrNone
	case slices.Contains(p.pairs, path.Pair{Own: own, Other: other}):
		return api.ErrTwice
	case len(p.pairs) == p.most:
		return api.ErrFull
	}
	p.pairs = append(p.pairs, path.Pair{Own: own, Other: other})
	return api.OK
}

func (p *plain) gone(own, other int) bool {
	many := len(p.pairs)
	p.pairs = without(p.pairs, func(x path.Pair) bool { return x == path.Pair{Own: own, Other: other} })
	return len(p.pairs) < many
}

func (p *plain) next() (path.Pair, bool) {
	var free []path.Pair
	for _, own := range p.own {
		for _, other := range p.other {
			if x := (path.Pair{Own: own, Other: other}); !slices.Contains(p.pairs, x) {
				free = append(free, x)
			}
		}
	}
	if len(free) == 0 || len(p.pairs) == p.most {
		return path.Pair{}, false
	}
	return sorted(free)[0], true
}

// both is a path manager, and the same in the plain way: each call is told to both.
type both struct {
	t *testing.T
	x *path.Paths
	p *plain
}

func newBoth(t *testing.T, own, other, most int) both {
	t.Helper()
	x, e := path.New(own, other, most)
	if x == nil || e != api.OK {
		t.Fatalf("New(%d, %d, %d): %v, %d", own, other, most, x, e)
	}
	b := both{t, x, &plain{[]int{own}, []int{other}, []path.Pair{{Own: own, Other: other}}, min(max(most, 1), 8)}}
	b.look()
	return b
}

func (b both) tell(own int) {
	b.t.Helper()
	if got, want := b.x.Tell(own), b.p.tell(own); got != want {
		b.t.Errorf("Tell(%d): %d, not %d", own, got, want)
	}
	b.look()
}

func (b both) untell(own int) {
	b.t.Helper()
	if got, want := b.x.Untell(own), b.p.untell(own); got != want {
		b.t.Errorf("Untell(%d): %d, not %d", own, got, want)
	}
	b.look()
}

func (b both) told(other int) {
	b.t.Helper()
	b.x.Told(other)
	b.p.told(other)
	b.look()
}

func (b both) untold(other int) {
	b.t.Helper()
	if got, want := b.x.Untold(other), b.p.untold(other); !slices.Equal(got, want) {
		b.t.Errorf("Untold(%d): %v, not %v", other, got, want)
	}
	b.look()
}

func (b both) join(own, other int) {
	b.t.Helper()
	if got, want := b.x.Join(own, other), b.p.join(own, other); got != want {
		b.t.Errorf("Join(%d, %d): %d, not %d", own, other, got, want)
	}
	b.look()
}

func (b both) gone(own, other int) {
	b.t.Helper()
	if got, want := b.x.Gone(own, other), b.p.gone(own, other); got != want {
		b.t.Errorf("Gone(%d, %d): %v, not %v", own, other, got, want)
	}
	b.look()
}

// look asks all that tells, and changes nothing.
func (b both) look() {
	b.t.Helper()
	next, is := b.p.next()
	b.is(slices.Sorted(slices.Values(b.p.own)), slices.Sorted(slices.Values(b.p.other)), sorted(b.p.pairs))
	if got, gotIs := b.x.Next(); got != next || gotIs != is {
		b.t.Errorf("Next: %v, %v, not %v, %v", got, gotIs, next, is)
	}
}

// is holds what there is against what is written.
func (b both) is(own, other []int, pairs []path.Pair) {
	b.t.Helper()
	if got := b.x.Own(); !slices.Equal(got, own) {
		b.t.Errorf("Own: %v, not %v", got, own)
	}
	if got := b.x.Other(); !slices.Equal(got, other) {
		b.t.Errorf("Other: %v, not %v", got, other)
	}
	if got := b.x.Pairs(); !slices.Equal(got, pairs) {
		b.t.Errorf("Pairs: %v, not %v", got, pairs)
	}
}

// rest joins all that can be, one by one, takes all back, and does so again: what there may be shows by it.
func (b both) rest() {
	b.t.Helper()
	for range 2 {
		for x, is := b.p.next(); is; x, is = b.p.next() {
			b.join(x.Own, x.Other)
		}
		for _, addr := range near {
			b.tell(addr)
			b.told(addr)
			b.join(addr, addr)
		}
		for _, addr := range near {
			b.untell(addr)
			b.untold(addr)
		}
		for _, addr := range near {
			b.tell(addr)
			b.told(addr)
		}
	}
}

// calls are all that change something, at all addresses and those beside them.
func (b both) calls() []func() {
	var all []func()
	for _, x := range near {
		all = append(all, func() { b.tell(x) }, func() { b.untell(x) }, func() { b.told(x) }, func() { b.untold(x) })
		for _, y := range near {
			all = append(all, func() { b.join(x, y) }, func() { b.gone(x, y) })
		}
	}
	return all
}

// something is a call, whichever the dice tell: joining oftener than what takes away.
func (b both) something(d *dice) {
	b.t.Helper()
	switch d.below(24) {
	case 0, 1, 2:
		b.tell(d.addr())
	case 3:
		b.untell(d.addr())
	case 4, 5, 6:
		b.told(d.addr())
	case 7:
		b.untold(d.addr())
	case 8, 9:
		b.gone(d.addr(), d.addr())
	case 10, 11, 12, 13:
		if x, is := b.p.next(); is {
			b.join(x.Own, x.Other)
		}
	default:
		b.join(d.addr(), d.addr())
	}
}

// All calls, behind one another, from the first on: any two behind all beginnings of a few.
func TestAnyTwoCalls(t *testing.T) {
	for _, most := range []int{1, 2, 8} {
		many := len(newBoth(t, 0, 0, 1).calls())
		for i := range many {
			for j := range many {
				b := newBoth(t, i%4, j%4, most)
				b.calls()[i]()
				b.calls()[j]()
				if t.Failed() {
					t.Fatalf("most %d, calls %d and %d", most, i, j)
				}
			}
		}
	}
}

// Any two calls, where many are told and joined already.
func TestAnyTwoCallsOfMany(t *testing.T) {
	for _, most := range []int{3, 4, 5, 8} {
		many := len(newBoth(t, 0, 0, 1).calls())
		for i := range many {
			for j := range many {
				b := newBoth(t, 1, 2, most)
				for _, addr := range []int{3, 0} {
					b.tell(addr)
					b.told(addr)
					b.join(addr, 2)
				}
				b.join(3, 3)
				b.untell(3)
				b.calls()[i]()
				b.calls()[j]()
				if t.Failed() {
					t.Fatalf("most %d, calls %d and %d", most, i, j)
				}
			}
		}
	}
}

// Long runs of calls of all sorts.
func TestManyCalls(t *testing.T) {
	for seed := range 300 {
		d := dice(seed)
		b := newBoth(t, d.below(4), d.below(4), d.below(11)-1)
		for range 300 {
			b.something(&d)
		}
		b.rest()
		if t.Failed() {
			t.Fatal(seed)
		}
	}
}
