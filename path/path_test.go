package path_test

import (
	"math"
	"slices"
	"testing"

	"ferrybridge/api"
	"ferrybridge/path"
)

// pair is one, written short.
func pair(own, other int) path.Pair { return path.Pair{Own: own, Other: other} }

// list are some, each written as own and other.
func list(l ...[2]int) []path.Pair {
	var all []path.Pair
	for _, x := range l {
		all = append(all, pair(x[0], x[1]))
	}
	return all
}

// all is a path manager of which all addresses are told, both ways; only 0 and 0 have a flow.
func all(t *testing.T, most int) both {
	t.Helper()
	b := newBoth(t, 0, 0, most)
	for addr := 3; addr > 0; addr-- {
		b.tells(addr, api.OK)
		b.told(addr)
	}
	return b
}

// These tell both, and hold what is answered against what is written.

func (b both) tells(own int, want api.Errno) {
	b.t.Helper()
	got := b.x.Tell(own)
	if b.p.tell(own); got != want {
		b.t.Errorf("Tell(%d): %d, not %d", own, got, want)
	}
	b.look()
}

func (b both) untells(own int, want api.Errno) {
	b.t.Helper()
	got := b.x.Untell(own)
	if b.p.untell(own); got != want {
		b.t.Errorf("Untell(%d): %d, not %d", own, got, want)
	}
	b.look()
}

func (b both) untolds(other int, want ...[2]int) {
	b.t.Helper()
	got := b.x.Untold(other)
	if b.p.untold(other); !slices.Equal(got, list(want...)) {
		b.t.Errorf("Untold(%d): %v, not %v", other, got, want)
	}
	b.look()
}

func (b both) joins(own, other int, want api.Errno) {
	b.t.Helper()
	got := b.x.Join(own, other)
	if b.p.join(own, other); got != want {
		b.t.Errorf("Join(%d, %d): %d, not %d", own, other, got, want)
	}
	b.look()
}

func (b both) isGone(own, other int, want bool) {
	b.t.Helper()
	got := b.x.Gone(own, other)
	if b.p.gone(own, other); got != want {
		b.t.Errorf("Gone(%d, %d): %v, not %v", own, other, got, want)
	}
	b.look()
}

func (b both) nextIs(own, other int) {
	b.t.Helper()
	if got, is := b.x.Next(); got != pair(own, other) || !is {
		b.t.Errorf("Next: %v, %v, not %d and %d", got, is, own, other)
	}
}

func (b both) noNext() {
	b.t.Helper()
	if got, is := b.x.Next(); got != pair(0, 0) || is {
		b.t.Errorf("Next: %v, %v, not none", got, is)
	}
}

// The chapter's example

func TestExample(t *testing.T) {
	p, e := path.New(0, 0, 2)
	if e != api.OK {
		t.Fatal(e)
	}
	p.Told(1)
	if x, is := p.Next(); x != pair(0, 1) || !is {
		t.Error(x, is)
	}
}

// P18.1, New

// Both are told, and have a flow.
func TestNew(t *testing.T) {
	for own := range 4 {
		for other := range 4 {
			for _, most := range edges {
				b := newBoth(t, own, other, most)
				b.is([]int{own}, []int{other}, list([2]int{own, other}))
				b.noNext()
				b.joins(own, other, api.ErrTwice)
				b.tells(own, api.ErrTwice)
			}
		}
	}
}

// An address that may not be is refused, whatever the other one is.
func TestNewWrong(t *testing.T) {
	for _, addr := range wrong {
		for _, x := range edges {
			for _, most := range []int{math.MinInt, 0, 1, 8, math.MaxInt} {
				for _, l := range [][2]int{{addr, x}, {x, addr}} {
					if p, e := path.New(l[0], l[1], most); p != nil || e != api.ErrArg {
						t.Errorf("New(%d, %d, %d): %v, %d", l[0], l[1], most, p, e)
					}
				}
			}
		}
	}
}

// So many flows there may be: most, held within 1 to 8.
func TestMost(t *testing.T) {
	for _, c := range []struct{ most, many int }{
		{math.MinInt, 1}, {-1 << 32, 1}, {-8, 1}, {-1, 1}, {0, 1}, {1, 1}, {2, 2}, {3, 3}, {4, 4}, {5, 5}, {6, 6}, {7, 7}, {8, 8},
		{9, 8}, {10, 8}, {15, 8}, {16, 8}, {17, 8}, {1 << 32, 8}, {1<<32 + 1, 8}, {math.MaxInt, 8},
	} {
		b := all(t, c.most)
		many := 1
		for i := 1; i < 16; i++ {
			if many < c.many {
				b.nextIs(i/4, i%4)
				b.joins(i/4, i%4, api.OK)
				many++
			} else {
				b.noNext()
				b.joins(i/4, i%4, api.ErrFull)
			}
		}
		if got := len(b.x.Pairs()); got != c.many {
			t.Errorf("most %d: %d flows, not %d", c.most, got, c.many)
		}
	}
}

// P18.1, own addresses

func TestTell(t *testing.T) {
	for first := range 4 {
		b := newBoth(t, first, 2, 8)
		for own := range 4 {
			if own != first {
				b.tells(own, api.OK)
			}
			b.tells(own, api.ErrTwice)
		}
		b.is([]int{0, 1, 2, 3}, []int{2}, list([2]int{first, 2}))
	}
}

// Told, taken back, taken back twice, told again, as often as is wanted.
func TestUntell(t *testing.T) {
	b := newBoth(t, 1, 1, 8)
	for range 3 {
		for own := range 4 {
			if own != 1 {
				b.untells(own, api.ErrNone)
				b.tells(own, api.OK)
				b.tells(own, api.ErrTwice)
			}
			b.untells(own, api.OK)
			b.untells(own, api.ErrNone)
			b.untells(own, api.ErrNone)
			b.tells(own, api.OK)
			b.tells(own, api.ErrTwice)
			b.untells(own, api.OK)
		}
		b.is(nil, []int{1}, list([2]int{1, 1}))
		b.noNext()
		b.tells(1, api.OK)
		b.is([]int{1}, []int{1}, list([2]int{1, 1}))
	}
}

func TestOwnWrong(t *testing.T) {
	b := all(t, 8)
	b.untells(2, api.OK)
	for _, own := range wrong {
		b.tells(own, api.ErrArg)
		b.untells(own, api.ErrArg)
	}
	b.is([]int{0, 1, 3}, []int{0, 1, 2, 3}, list([2]int{0, 0}))
	b.nextIs(0, 1)
}

// What is taken back has its flows on: they count, they are told, and they may go; but no pair of it is joined, or next.
func TestUntellKeepsFlows(t *testing.T) {
	b := all(t, 5)
	b.joins(2, 1, api.OK)
	b.joins(2, 3, api.OK)
	b.joins(0, 1, api.OK)
	b.untells(2, api.OK)
	b.is([]int{0, 1, 3}, []int{0, 1, 2, 3}, list([2]int{0, 0}, [2]int{0, 1}, [2]int{2, 1}, [2]int{2, 3}))
	b.joins(2, 0, api.ErrNone)
	b.joins(2, 1, api.ErrNone)
	b.nextIs(0, 2)
	b.isGone(2, 3, true)
	b.isGone(2, 3, false)
	b.joins(2, 3, api.ErrNone)
	b.joins(0, 2, api.OK)
	b.joins(0, 3, api.OK)
	b.noNext()
	b.joins(1, 0, api.ErrFull)
	b.joins(2, 0, api.ErrNone)
	b.isGone(2, 1, true)
	b.nextIs(1, 0)
	b.tells(2, api.OK)
	b.joins(2, 1, api.OK)
	b.noNext()
	b.is([]int{0, 1, 2, 3}, []int{0, 1, 2, 3}, list([2]int{0, 0}, [2]int{0, 1}, [2]int{0, 2}, [2]int{0, 3}, [2]int{2, 1}))
}

// Told again it finds the flow that it had.
func TestUntellAndTellAgain(t *testing.T) {
	b := newBoth(t, 3, 2, 8)
	b.untells(3, api.OK)
	b.joins(3, 2, api.ErrNone)
	b.noNext()
	b.told(0)
	b.noNext()
	b.tells(3, api.OK)
	b.joins(3, 2, api.ErrTwice)
	b.nextIs(3, 0)
}

// Its flows go with the other side's address, though it was taken back.
func TestUntoldBehindUntell(t *testing.T) {
	b := newBoth(t, 3, 2, 1)
	b.tells(1, api.OK)
	b.untells(3, api.OK)
	b.noNext()
	b.untolds(2, [2]int{3, 2})
	b.untolds(2)
	b.is([]int{1}, nil, nil)
	b.told(2)
	b.nextIs(1, 2)
}

// P18.1, the other side's addresses

// Told twice is as told once.
func TestTold(t *testing.T) {
	for first := range 4 {
		b := newBoth(t, 2, first, 8)
		for range 2 {
			for other := 3; other >= 0; other-- {
				b.told(other)
			}
			b.is([]int{2}, []int{0, 1, 2, 3}, list([2]int{2, first}))
		}
	}
}

func TestToldOneByOne(t *testing.T) {
	b := newBoth(t, 2, 2, 8)
	b.told(0)
	b.is([]int{2}, []int{0, 2}, list([2]int{2, 2}))
	b.nextIs(2, 0)
	b.told(3)
	b.is([]int{2}, []int{0, 2, 3}, list([2]int{2, 2}))
	b.joins(2, 0, api.OK)
	b.nextIs(2, 3)
	b.told(0)
	b.joins(2, 0, api.ErrTwice)
	b.joins(2, 1, api.ErrNone)
}

// Taken back, twice, and told again: the flows that it had are gone for good.
func TestUntold(t *testing.T) {
	b := newBoth(t, 1, 3, 8)
	for range 3 {
		b.untolds(3, [2]int{1, 3})
		b.untolds(3)
		b.is([]int{1}, nil, nil)
		b.noNext()
		b.joins(1, 3, api.ErrNone)
		b.isGone(1, 3, false)
		b.told(3)
		b.is([]int{1}, []int{3}, nil)
		b.untolds(3)
		b.told(3)
		b.nextIs(1, 3)
		b.joins(1, 3, api.OK)
	}
}

// Those with it that have a flow, rising, in whatever order they were joined; the others stay.
func TestUntoldOfSeveral(t *testing.T) {
	b := all(t, 8)
	for _, x := range [][2]int{{3, 2}, {1, 2}, {2, 3}, {2, 1}, {0, 2}, {3, 0}} {
		b.joins(x[0], x[1], api.OK)
	}
	b.untolds(2, [2]int{0, 2}, [2]int{1, 2}, [2]int{3, 2})
	b.is([]int{0, 1, 2, 3}, []int{0, 1, 3}, list([2]int{0, 0}, [2]int{2, 1}, [2]int{2, 3}, [2]int{3, 0}))
	b.untolds(2)
	b.untolds(1, [2]int{2, 1})
	b.untolds(0, [2]int{0, 0}, [2]int{3, 0})
	b.untolds(3, [2]int{2, 3})
	b.is([]int{0, 1, 2, 3}, nil, nil)
	b.noNext()
}

func TestUntoldOfAll(t *testing.T) {
	for other := range 4 {
		b := all(t, 8)
		for own := 3; own >= 0; own-- {
			b.join(own, other)
		}
		b.untolds(other, [2]int{0, other}, [2]int{1, other}, [2]int{2, other}, [2]int{3, other})
	}
}

// There may be more flows behind it, where there were as many as may be.
func TestUntoldMakesRoom(t *testing.T) {
	b := all(t, 3)
	b.joins(1, 2, api.OK)
	b.joins(3, 2, api.OK)
	b.joins(3, 3, api.ErrFull)
	b.untolds(2, [2]int{1, 2}, [2]int{3, 2})
	b.nextIs(0, 1)
	b.joins(3, 3, api.OK)
	b.joins(3, 1, api.OK)
	b.joins(2, 1, api.ErrFull)
}

// Nothing comes of one that may not be.
func TestOtherWrong(t *testing.T) {
	b := all(t, 8)
	b.untolds(2)
	b.joins(1, 3, api.OK)
	for _, other := range wrong {
		b.told(other)
		b.untolds(other)
	}
	b.is([]int{0, 1, 2, 3}, []int{0, 1, 3}, list([2]int{0, 0}, [2]int{1, 3}))
}

// An address of its own, and the same number of the other side's, are two.
func TestOwnAndOtherAreTwo(t *testing.T) {
	b := newBoth(t, 0, 3, 8)
	b.tells(1, api.OK)
	b.told(2)
	b.is([]int{0, 1}, []int{2, 3}, list([2]int{0, 3}))
	b.joins(2, 1, api.ErrNone)
	b.untells(2, api.ErrNone)
	b.untolds(1)
	b.joins(1, 2, api.OK)
	b.isGone(2, 1, false)
	b.untells(1, api.OK)
	b.untolds(2, [2]int{1, 2})
	b.is([]int{0}, []int{3}, list([2]int{0, 3}))
}

// P18.2, Join and Gone

func TestJoinAndGone(t *testing.T) {
	for own := range 4 {
		for other := range 4 {
			b := all(t, 2)
			if own+other > 0 {
				b.isGone(own, other, false)
				b.joins(own, other, api.OK)
				b.is([]int{0, 1, 2, 3}, []int{0, 1, 2, 3}, list([2]int{0, 0}, [2]int{own, other}))
			}
			b.joins(own, other, api.ErrTwice)
			b.isGone(own, other, true)
			b.isGone(own, other, false)
			b.joins(own, other, api.OK)
			b.isGone(own, other, true)
		}
	}
}

// Of several errors the first one of these is told: ErrArg, ErrNone, ErrTwice, ErrFull.
func TestJoinErrors(t *testing.T) {
	b := newBoth(t, 1, 2, 3)
	b.tells(0, api.OK)
	b.tells(3, api.OK)
	b.told(0)
	b.joins(0, 2, api.OK)
	b.joins(2, 2, api.ErrNone) // own isn't told
	b.joins(1, 3, api.ErrNone) // other isn't
	b.joins(2, 3, api.ErrNone) // neither is
	b.joins(1, 2, api.ErrTwice)
	b.joins(3, 2, api.OK)
	// There are as many as may be now.
	b.joins(1, 0, api.ErrFull)
	b.joins(1, 2, api.ErrTwice)
	b.joins(2, 2, api.ErrNone)
	b.joins(1, 3, api.ErrNone)
	b.joins(4, 0, api.ErrArg)
	// What has a flow, but isn't told any more.
	b.untells(3, api.OK)
	b.joins(3, 2, api.ErrNone)
	b.joins(3, 0, api.ErrNone)
	b.joins(3, -1, api.ErrArg)
	b.is([]int{0, 1}, []int{0, 2}, list([2]int{0, 2}, [2]int{1, 2}, [2]int{3, 2}))
}

// ErrArg is told whatever the other address is, and whether there is room or not.
func TestPairWrong(t *testing.T) {
	for _, most := range []int{1, 8} {
		b := newBoth(t, 1, 2, most)
		b.tells(0, api.OK)
		for _, addr := range wrong {
			for _, x := range edges {
				b.joins(addr, x, api.ErrArg)
				b.joins(x, addr, api.ErrArg)
				b.isGone(addr, x, false)
				b.isGone(x, addr, false)
			}
		}
		b.is([]int{0, 1}, []int{2}, list([2]int{1, 2}))
	}
}

// A pair that can't have a flow had none.
func TestGoneOfUntold(t *testing.T) {
	b := newBoth(t, 1, 2, 8)
	b.isGone(1, 3, false)
	b.isGone(0, 2, false)
	b.isGone(2, 1, false)
	b.isGone(0, 0, false)
	b.is([]int{1}, []int{2}, list([2]int{1, 2}))
	b.isGone(1, 2, true)
	b.is([]int{1}, []int{2}, nil)
	b.nextIs(1, 2)
}

func TestGoneMakesRoom(t *testing.T) {
	b := all(t, 2)
	b.joins(3, 1, api.OK)
	b.noNext()
	b.isGone(0, 0, true)
	b.nextIs(0, 0)
	b.joins(2, 3, api.OK)
	b.noNext()
	b.joins(0, 0, api.ErrFull)
	b.isGone(1, 1, false)
	b.noNext()
	b.isGone(3, 1, true)
	b.joins(0, 0, api.OK)
	b.is([]int{0, 1, 2, 3}, []int{0, 1, 2, 3}, list([2]int{0, 0}, [2]int{2, 3}))
}

// P18.2, Next

// By own, then by other: all of those that were told, and none that wasn't.
func TestNext(t *testing.T) {
	b := newBoth(t, 3, 1, 8)
	b.noNext()
	b.told(2)
	b.nextIs(3, 2)
	b.tells(1, api.OK)
	b.nextIs(1, 1)
	b.told(0)
	b.nextIs(1, 0)
	b.joins(1, 1, api.OK)
	b.nextIs(1, 0)
	b.joins(1, 0, api.OK)
	b.nextIs(1, 2)
	b.joins(1, 2, api.OK)
	b.nextIs(3, 0)
	b.joins(3, 2, api.OK)
	b.joins(3, 0, api.OK)
	b.noNext()
	b.isGone(3, 1, true)
	b.nextIs(3, 1)
	b.isGone(1, 2, true)
	b.nextIs(1, 2)
	b.untells(1, api.OK)
	b.nextIs(3, 1)
	b.untolds(1, [2]int{1, 1})
	b.noNext()
	b.tells(0, api.OK)
	b.nextIs(0, 0)
	b.untolds(0, [2]int{1, 0}, [2]int{3, 0})
	b.nextIs(0, 2)
	b.untolds(2, [2]int{3, 2})
	b.noNext()
}

// It tells the same pair till that is joined.
func TestNextChangesNothing(t *testing.T) {
	b := all(t, 8)
	for range 5 {
		b.nextIs(0, 1)
	}
	b.joins(0, 1, api.OK)
	b.nextIs(0, 2)
}

// P18.2, in order

func TestOrder(t *testing.T) {
	b := newBoth(t, 2, 3, 8)
	b.tells(3, api.OK)
	b.tells(0, api.OK)
	b.told(1)
	b.told(0)
	for _, x := range [][2]int{{3, 3}, {0, 3}, {3, 0}, {2, 1}, {0, 1}, {2, 0}} {
		b.joins(x[0], x[1], api.OK)
	}
	b.is([]int{0, 2, 3}, []int{0, 1, 3}, list([2]int{0, 1}, [2]int{0, 3}, [2]int{2, 0}, [2]int{2, 1}, [2]int{2, 3}, [2]int{3, 0}, [2]int{3, 3}))
	b.isGone(2, 1, true)
	b.tells(1, api.OK)
	b.joins(1, 1, api.OK)
	b.untells(0, api.OK)
	b.told(2)
	b.is([]int{1, 2, 3}, []int{0, 1, 2, 3}, list([2]int{0, 1}, [2]int{0, 3}, [2]int{1, 1}, [2]int{2, 0}, [2]int{2, 3}, [2]int{3, 0}, [2]int{3, 3}))
}

// Of a nil Paths

func TestNil(t *testing.T) {
	var p *path.Paths
	for _, x := range edges {
		if e := p.Tell(x); e != api.ErrNil {
			t.Errorf("Tell(%d): %d", x, e)
		}
		if e := p.Untell(x); e != api.ErrNil {
			t.Errorf("Untell(%d): %d", x, e)
		}
		p.Told(x)
		if l := p.Untold(x); l != nil {
			t.Errorf("Untold(%d): %v", x, l)
		}
		for _, y := range edges {
			if e := p.Join(x, y); e != api.ErrNil {
				t.Errorf("Join(%d, %d): %d", x, y, e)
			}
			if p.Gone(x, y) {
				t.Errorf("Gone(%d, %d)", x, y)
			}
		}
		if y, is := p.Next(); y != pair(0, 0) || is {
			t.Errorf("Next: %v, %v", y, is)
		}
		if p.Own() != nil || p.Other() != nil || p.Pairs() != nil {
			t.Errorf("%v, %v, %v", p.Own(), p.Other(), p.Pairs())
		}
	}
}
