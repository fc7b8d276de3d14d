package token_test

import (
	"fmt"
	"math"
	"slices"
	"testing"

	"ferrybridge/api"
	"ferrybridge/token"
)

// R4, what is handed in

func TestGivenIsNotChanged(t *testing.T) {
	for n := range 7 {
		whole := []uint64{4, 1, 4, 2, 9, 3, 5, 6}
		was, x := slices.Clone(whole), token.New(4)
		for range 5 {
			given := whole[:n]
			k, _, e := x.Take(1, given...)
			if e == api.OK && !slices.Contains(given, k) {
				t.Errorf("Take(%d): %d", given, k)
			}
			x.Free(of(k), 3)
			x.Tick(12)
			x.All()
		}
		x.Tick(13)
		if !slices.Equal(whole, was) {
			t.Errorf("Take(%d): %d became %d", n, was, whole)
		}
	}
}

// What was handed in may change: a table keeps nothing of it.
func TestGivenIsNotKept(t *testing.T) {
	b := newBoth(t, 4)
	given := []uint64{1, 2, 3}
	for i := range 3 {
		b.take(i, given...)
	}
	given[0], given[1], given[2] = 7, 8, 9
	b.look()
	b.take(5, 1, 2, 3, 7)
	b.look()
}

// R4, what is answered

// scribble writes over all of l, spare room included.
func scribble(l []token.Entry) {
	l = l[:cap(l)]
	for i := range l {
		l[i] = token.Entry{Token: 77, Owner: -78, Live: i%2 == 0, Until: 79}
	}
}

func TestAnswerIsNewMemory(t *testing.T) {
	for many := range 20 {
		b := newBoth(t, 30)
		for k := range many {
			b.take(k, uint64(k))
			if k%3 == 0 {
				b.free(of(uint64(k)), k)
			}
		}
		first := b.x.All()
		was, spare := slices.Clone(first), slices.Clone(first[:cap(first)])
		// What comes behind it neither reaches an earlier answer nor its spare room.
		second := b.x.All()
		b.take(1, 1000)
		b.free(of(1), 20)
		b.tick(15)
		scribble(second)
		scribble(b.x.All())
		if !slices.Equal(first, was) || !slices.Equal(first[:cap(first)], spare) {
			t.Errorf("%d: %v became %v", many, was, first)
		}
		// And a table goes on as it would if its answers are written over.
		scribble(first)
		b.look()
		b.take(2, 0, 1, 2, 1001)
		b.tick(30)
		b.look()
	}
}

// anything is a call, whichever the dice tell, at that tick.
func anything(b both, d *dice, now int) {
	b.t.Helper()
	k := uint64(d.below(80))
	switch d.below(8) {
	case 0:
		b.tick(now)
	case 1, 2:
		b.free(of(k), now)
	case 3:
		if l := b.p.l; len(l) > 0 {
			b.free(l[d.below(len(l))].Token, now)
		}
	case 4:
		b.take(owners[d.below(len(owners))])
	default:
		var keys []uint64
		for range d.below(6) {
			keys = append(keys, k, uint64(d.below(80)), twins[d.below(len(twins))][d.below(2)], ends[d.below(len(ends))].key)
		}
		b.take(owners[d.below(len(owners))], keys...)
	}
}

// All calls, one behind the other, at tables of each kind of capacity.
func TestAnything(t *testing.T) {
	starts := []int{0, -100, math.MinInt, 1 << 40, math.MaxInt - 5000}
	for seed, c := range capacities {
		d := dice(seed)
		b, now := newBoth(t, c.given), starts[seed%len(starts)]
		for range 500 {
			now += d.below(6)
			anything(b, &d, now)
			b.look()
		}
	}
}

// One table changes nothing of another one's.
func TestTablesAreApart(t *testing.T) {
	one, other, third := newBoth(t, 3), newBoth(t, 3), newBoth(t, 64)
	d := dice(9)
	for now := range 300 {
		for _, b := range []both{one, other, third} {
			anything(b, &d, now)
		}
		one.look()
		other.look()
		third.look()
	}
}

// R5

// log is what a table answers to calls that the dice tell.
func log(seed int, between func()) string {
	d, x, said := dice(seed), token.New(1+seed), ""
	for now := range 300 {
		k := uint64(d.below(60))
		switch d.below(4) {
		case 0:
			said += fmt.Sprintln(x.Tick(now))
		case 1:
			said += fmt.Sprintln(x.Free(of(k), now))
		default:
			said += fmt.Sprintln(x.Take(d.below(9)-4, k, k+1, k+2))
		}
		between()
		owner, live := x.Find(of(k))
		said += fmt.Sprintln(owner, live, x.All())
	}
	return said
}

// The same calls have the same answers, whatever else is asked between.
func TestSameCallsSameAnswers(t *testing.T) {
	for seed := range 30 {
		first := log(seed, func() {})
		b, d := newBoth(t, 20), dice(seed+1)
		again := log(seed, func() { anything(b, &d, 5) })
		if first != again {
			t.Errorf("%d: other answers", seed)
		}
	}
}

// The order is the same each time, however a map is gone through, and whatever way the same entries came to be.
func TestAllIsAlwaysTheSame(t *testing.T) {
	keys := upTo(300, most)
	x, y := token.New(most), token.New(most)
	for i, k := range keys {
		last := keys[most-1-i]
		x.Take(int(k), k)
		y.Take(int(last), last)
	}
	for _, k := range keys[:most/2] {
		x.Free(of(k), 5)
	}
	for _, k := range slices.Backward(keys[:most/2]) {
		y.Free(of(k), 5)
	}
	want := x.All()
	for range 200 {
		if l, m := x.All(), y.All(); len(l) != most || !slices.Equal(l, want) || !slices.Equal(m, want) {
			t.Fatalf("All: %v, and %v, not %v", l, m, want)
		}
	}
	if n, m := x.Tick(15), y.Tick(15); n != most/2 || m != most/2 || !slices.Equal(x.All(), y.All()) {
		t.Error(n, m, x.All(), y.All())
	}
}

// What is asked changes nothing: asked again it is told likewise; nor does what is refused.
func TestAskingChangesNothing(t *testing.T) {
	b := some(t, 6, 3, 2)
	for range 4 {
		b.take(1)
		b.take(1, 11, 21)
		b.free(of(21), 9)
		b.free(of(99), 9)
		b.look()
	}
	b.take(1, 99)
	for range 4 {
		b.take(1, 100)
		b.look()
	}
}
