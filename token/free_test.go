package token_test

import (
	"math"
	"slices"
	"testing"

	"ferrybridge/api"
	"ferrybridge/token"
)

// freed holds what Free answers against what is written.
func (b both) freed(which uint32, tick int, want api.Errno) {
	b.t.Helper()
	if e := b.x.Free(which, tick); e != want {
		b.t.Errorf("Free(%08x, %d): %d, not %d", which, tick, e, want)
	}
	b.p.free(which, tick)
	b.look()
}

// gone holds what Tick answers against what is written.
func (b both) gone(tick, want int) {
	b.t.Helper()
	if n := b.x.Tick(tick); n != want {
		b.t.Errorf("Tick(%d): %d, not %d", tick, n, want)
	}
	b.p.tick(tick)
	b.look()
}

// ticks are those at which a quarantine may begin and end.
var ticks = []int{math.MinInt, math.MinInt + 1, math.MinInt + 9, math.MinInt + 10, -1 << 40, -1 << 32, -1 << 31, -21, -11, -10, -9, -5, -1, 0, 1, 5, 9, 10, 11, 100, 1<<31 - 11, 1<<31 - 10, 1<<31 - 1, 1 << 31, 1<<32 - 1, 1 << 32, 1 << 40, math.MaxInt - 21, math.MaxInt - 11, math.MaxInt - 10}

// P10.2, Free

func TestFreeIsAsWritten(t *testing.T) {
	for _, tick := range ticks {
		b := newBoth(t, 3)
		b.take(4, 1)
		b.take(5, 2)
		b.freed(of(3), tick, api.ErrNone)
		b.freed(of(1)+1, tick, api.ErrNone)
		b.freed(of(1), tick, api.OK)
		b.freed(of(1), tick, api.ErrNone)
		b.freed(of(3), tick, api.ErrNone)
		if owner, live := b.x.Find(of(1)); owner != 0 || live {
			t.Errorf("Free at %d, then Find: %d, %v", tick, owner, live)
		}
		want := []token.Entry{{Token: of(1), Until: tick + 10}, {Token: of(2), Owner: 5, Live: true}}
		if of(1) > of(2) {
			slices.Reverse(want)
		}
		if l := b.x.All(); !slices.Equal(l, want) {
			t.Errorf("Free at %d, then All: %v, not %v", tick, l, want)
		}
		b.gone(tick+10, 1)
		b.freed(of(1), tick+10, api.ErrNone)
	}
}

// What is refused changes nothing: of a token that is quarantined its end stays, whatever tick is told.
func TestFreeOfWhatIsntLive(t *testing.T) {
	for _, tick := range append(slices.Clone(ticks), math.MaxInt-9, math.MaxInt) {
		for many := range 4 {
			b := newBoth(t, 5)
			for k := range uint64(many) {
				b.take(9, k)
				b.free(of(k), 50)
			}
			b.take(-8, 7)
			for k := range uint64(7) {
				b.freed(of(k), tick, api.ErrNone)
			}
			for _, which := range []uint32{0, 1, 1<<31 - 1, 1 << 31, 1<<32 - 1, of(7) + 1, of(7) - 1} {
				b.freed(which, tick, api.ErrNone)
			}
			b.gone(59, 0)
			b.gone(60, many)
		}
	}
}

// Of several tokens just that one, whoever's they are.
func TestFreeOfOneOfSeveral(t *testing.T) {
	for first := range uint64(6) {
		for second := range uint64(6) {
			b := newBoth(t, 6)
			for k := range uint64(6) {
				b.take(int(k/3), k)
			}
			b.freed(of(first), 0, api.OK)
			want := api.OK
			if first == second {
				want = api.ErrNone
			}
			b.freed(of(second), 1, want)
			b.gone(10, 1)
		}
	}
}

// P10.2, Tick

func TestTickIsAsWritten(t *testing.T) {
	for _, tick := range ticks {
		for _, by := range []int{math.MinInt, -1 << 40, -11, -10, -1, 0, 1, 5, 9, 10, 11, 20, 1 << 40, math.MaxInt} {
			b := newBoth(t, 2)
			b.take(-1, 1)
			b.take(-1, 2)
			b.free(of(1), tick)
			to, want := added(tick, by), 0
			if to >= tick+10 {
				want = 1
			}
			b.gone(to, want)
			b.gone(to, 0)
			b.gone(math.MaxInt, 1-want)
			b.gone(math.MaxInt, 0)
		}
	}
}

// added is both numbers together, held within what an int can be.
func added(a, b int) int {
	if sum := a + b; (sum > a) == (b > 0) {
		return sum
	}
	if b > 0 {
		return math.MaxInt
	}
	return math.MinInt
}

// By each step ahead of the end, at it and behind it, whatever was asked ahead of that.
func TestTickByEachStep(t *testing.T) {
	for step := range 14 {
		b := newBoth(t, 3)
		b.take(2, 5)
		b.take(3, 6)
		b.freed(of(5), 200, api.OK)
		for tick, left := 200, 1; tick < 230; tick += max(step, 1) {
			want := 0
			if tick >= 210 {
				want, left = left, 0
			}
			b.gone(tick, want)
			b.gone(tick, 0)
		}
		b.gone(230+step, 0)
	}
}

// Several end at once, or one by one, in whatever order they were taken; what is live stays.
func TestTickOfSeveral(t *testing.T) {
	for _, c := range []struct {
		freed []int // at which tick each of the keys from 0 on
		at    []int // ticks, one behind the other
		want  []int // how many are gone at each
	}{
		{nil, []int{0, 10, 1000}, []int{0, 0, 0}},
		{[]int{5}, []int{14, 15, 16}, []int{0, 1, 0}},
		{[]int{5, 5, 5, 5}, []int{14, 15, 15}, []int{0, 4, 0}},
		{[]int{5, 6, 7, 8}, []int{14, 15, 16, 17, 18, 19}, []int{0, 1, 1, 1, 1, 0}},
		{[]int{5, 6, 7, 8}, []int{16, 16, 17, 100}, []int{2, 0, 1, 1}},
		{[]int{5, 5, 7, 7}, []int{5, 14, 15, 16, 17}, []int{0, 0, 2, 0, 2}},
		{[]int{5, 5, 7, 9}, []int{17, 17, 18, 19}, []int{3, 0, 0, 1}},
		{[]int{5, 15, 25, 35}, []int{15, 25, 35, 45}, []int{1, 1, 1, 1}},
		{[]int{5, 15, 25, 35}, []int{44, 45}, []int{3, 1}},
		{[]int{-20, -10, -1, 0}, []int{-11, -10, 0, 9, 10}, []int{0, 1, 1, 1, 1}},
	} {
		for _, from := range []uint64{0, 1000, 1 << 40} {
			b := newBoth(t, 8)
			for k := range 8 {
				b.take(k, from+uint64(k))
			}
			for i, tick := range c.freed {
				b.freed(of(from+uint64(i)), tick, api.OK)
			}
			for i, tick := range c.at {
				b.gone(tick, c.want[i])
			}
			if l := b.x.All(); len(l) != 8-len(c.freed) {
				t.Errorf("%d: %v are left", c, l)
			}
		}
	}
}

// P10.3

// What was freed isn't given till just its quarantine ends, and is given then, to whom else too.
func TestFreedIsntGivenAheadOfItsTime(t *testing.T) {
	for _, start := range ticks[:len(ticks)-2] {
		b := newBoth(t, 3)
		for turn := range 2 {
			tick := start + turn*10
			b.taken(turn+1, []uint64{1}, 1, 0, api.OK)
			b.freed(of(1), tick, api.OK)
			for i := range 10 {
				b.gone(tick+i, 0)
				b.taken(7, []uint64{1}, 0, 1, api.ErrNone)
			}
			b.gone(tick+10, 1)
		}
		b.taken(9, []uint64{2, 1}, 2, 0, api.OK)
		b.taken(9, []uint64{2, 1}, 1, 1, api.OK)
	}
}

// An end that would be beyond the greatest int doesn't come ahead of its time: it never comes.
func TestFreedAtTheGreatestTicks(t *testing.T) {
	for by := range 10 {
		freed := math.MaxInt - by
		x := token.New(2)
		x.Take(1, 1)
		if e := x.Free(of(1), freed); e != api.OK {
			t.Errorf("Free at %d: %d", freed, e)
		}
		for _, tick := range []int{math.MinInt, -1, 0, 100, freed - 1, freed, math.MaxInt} {
			if n := x.Tick(tick); n != 0 {
				t.Errorf("Free at %d, then Tick(%d): %d", freed, tick, n)
			}
			if k, n, e := x.Take(2, 1); k != 0 || n != 1 || e != api.ErrNone {
				t.Errorf("Free at %d, then Tick(%d): given %d, %d, %d", freed, tick, k, n, e)
			}
		}
		if owner, live := x.Find(of(1)); owner != 0 || live || x.Free(of(1), freed) != api.ErrNone {
			t.Errorf("Free at %d: %d, %v", freed, owner, live)
		}
		if l := x.All(); len(l) != 1 || l[0].Token != of(1) || l[0].Owner != 0 || l[0].Live || l[0].Until < freed {
			t.Errorf("Free at %d: %v", freed, l)
		}
	}
}

// P10.2, Find and All

// In the order of the tokens as numbers without sign, in whatever order they were taken.
func TestAllIsInOrder(t *testing.T) {
	for first := range ends {
		for _, back := range []int{1, -1} {
			b, many := newBoth(t, len(ends)), len(ends)
			for i := range ends {
				c := ends[(first+back*i+many)%many]
				b.taken(i-2, []uint64{c.key}, c.key, 0, api.OK)
			}
			order := func() {
				t.Helper()
				var got []uint32
				for _, e := range b.x.All() {
					got = append(got, e.Token)
				}
				if want := []uint32{0, 1, 1<<31 - 1, 1 << 31, 1<<32 - 2, 1<<32 - 1}; !slices.Equal(got, want) {
					t.Errorf("All: %08x", got)
				}
			}
			order()
			for i, c := range ends {
				b.freed(c.token, i, api.OK)
				order()
			}
			for i := range ends {
				b.gone(10+i, 1)
			}
		}
	}
}

// What one call answers, where entries are of both kinds, as it is written.
func TestFindAndAllAreAsWritten(t *testing.T) {
	x := token.New(6)
	for i, c := range ends {
		x.Take(3-i, c.key)
	}
	x.Free(0, -4)
	x.Free(1<<32-1, 0)
	x.Free(1<<31, 7)
	want := []token.Entry{{0, 0, false, 6}, {1, -2, true, 0}, {1<<31 - 1, 0, true, 0}, {1 << 31, 0, false, 17}, {1<<32 - 2, -1, true, 0}, {1<<32 - 1, 0, false, 10}}
	if l := x.All(); !slices.Equal(l, want) {
		t.Errorf("%v, not %v", l, want)
	}
	for _, e := range want {
		if owner, live := x.Find(e.Token); owner != e.Owner || live != e.Live {
			t.Errorf("Find(%08x): %d, %v", e.Token, owner, live)
		}
	}
	for _, which := range []uint32{2, 1<<31 - 2, 1<<31 + 1, 1<<32 - 3} {
		if owner, live := x.Find(which); owner != 0 || live {
			t.Errorf("Find(%08x): %d, %v", which, owner, live)
		}
	}
	if n := x.Tick(10); n != 2 {
		t.Error(n)
	}
	if l := x.All(); !slices.Equal(l, want[1:5]) {
		t.Errorf("%v, not %v", l, want[1:5])
	}
}

func TestOfNil(t *testing.T) {
	var x *token.Table
	for _, n := range append(slices.Clone(ticks), math.MaxInt) {
		if e := x.Free(uint32(n), n); e != api.ErrNil {
			t.Errorf("Free(%08x, %d): %d", uint32(n), n, e)
		}
		if many := x.Tick(n); many != 0 {
			t.Errorf("Tick(%d): %d", n, many)
		}
		if owner, live := x.Find(uint32(n)); owner != 0 || live {
			t.Errorf("Find(%08x): %d, %v", uint32(n), owner, live)
		}
		for _, keys := range [][]uint64{nil, {}, {0}, {1}, {5, 5, 6}, {uint64(n)}} {
			if k, ahead, e := x.Take(n, keys...); k != 0 || ahead != 0 || e != api.ErrNil {
				t.Errorf("Take(%d, %d): %d, %d, %d", n, keys, k, ahead, e)
			}
		}
		if l := x.All(); len(l) != 0 {
			t.Errorf("All: %v", l)
		}
	}
}
