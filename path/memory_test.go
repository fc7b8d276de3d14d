package path_test

import (
	"fmt"
	"slices"
	"testing"

	"ferrybridge/api"
	"ferrybridge/path"
)

// R2

// A call that answers an error has changed nothing: each pair of calls behind it answers as if it hadn't been.
func TestErrorChangesNothing(t *testing.T) {
	for seed := range 60 {
		d := dice(seed)
		b := newBoth(t, d.below(4), d.below(4), d.below(9))
		for range 40 {
			b.something(&d)
			own, other, l := b.x.Own(), b.x.Other(), b.x.Pairs()
			for _, x := range near {
				if b.p.tell(x) != api.OK {
					b.x.Tell(x)
				} else {
					b.p.untell(x)
				}
				if !slices.Contains(own, x) {
					b.x.Untell(x)
				}
				for _, y := range near {
					if b.p.join(x, y) != api.OK {
						b.x.Join(x, y)
					} else {
						b.p.gone(x, y)
					}
				}
			}
			b.is(own, other, l)
			b.look()
		}
	}
}

// R4, what is answered

// scribble writes over all of l, spare room included.
func scribble[T any](x T, l []T) {
	l = l[:cap(l)]
	for i := range l {
		l[i] = x
	}
}

// lists are what tells, each with its spare room.
func lists(p *path.Paths) ([][]int, [][]path.Pair) {
	return [][]int{p.Own(), p.Other()}, [][]path.Pair{p.Pairs()}
}

// apart fails where what is written over one of l is seen in another one, spare room included.
func apart[T comparable](t *testing.T, seed int, x T, l [][]T) {
	t.Helper()
	var was [][]T
	for _, one := range l {
		was = append(was, slices.Clone(one[:cap(one)]))
	}
	for i, one := range l {
		scribble(x, one)
		for j := i + 1; j < len(l); j++ {
			if !slices.Equal(l[j][:cap(l[j])], was[j]) {
				t.Fatalf("%d: the answer %d shares memory with the answer %d", seed, i, j)
			}
		}
	}
}

// It goes on as it would if its answers are written over, and what comes behind them reaches none of them.
func TestAnswerIsNewMemory(t *testing.T) {
	for seed := range 200 {
		d := dice(seed)
		b := newBoth(t, d.below(4), d.below(4), 1+d.below(8))
		var addrs, addrsWere [][]int
		var pairs, pairsWere [][]path.Pair
		for range 60 {
			b.something(&d)
			a, l := lists(b.x)
			if d.below(8) == 0 {
				other := d.below(4)
				l = append(l, b.x.Untold(other))
				b.p.untold(other)
			}
			for _, x := range a {
				addrs, addrsWere = append(addrs, x), append(addrsWere, slices.Clone(x[:cap(x)]))
			}
			for _, x := range l {
				pairs, pairsWere = append(pairs, x), append(pairsWere, slices.Clone(x[:cap(x)]))
			}
		}
		for i, x := range addrs {
			if !slices.Equal(x[:cap(x)], addrsWere[i]) {
				t.Fatalf("%d: %v became %v", seed, addrsWere[i], x)
			}
		}
		for i, x := range pairs {
			if !slices.Equal(x[:cap(x)], pairsWere[i]) {
				t.Fatalf("%d: %v became %v", seed, pairsWere[i], x)
			}
		}
		apart(t, seed, -7, addrs)
		apart(t, seed, pair(-7, 77), pairs)
		b.look()
		b.rest()
	}
}

// Written over while it goes on, answer by answer.
func TestAnswerIsNotKept(t *testing.T) {
	for seed := range 200 {
		d := dice(seed)
		b := newBoth(t, d.below(4), d.below(4), 1+d.below(8))
		for range 60 {
			addrs, pairs := lists(b.x)
			scribble(9, addrs[0])
			scribble(-9, addrs[1])
			scribble(pair(3, 3), pairs[0])
			b.something(&d)
			if d.below(8) == 0 {
				other := d.below(4)
				scribble(pair(2, other), b.x.Untold(other))
				b.p.untold(other)
				b.look()
			}
		}
	}
}

// An answer's spare room has nothing.
func TestAnswerHasNoMore(t *testing.T) {
	for seed := range 100 {
		d := dice(seed)
		b := newBoth(t, d.below(4), d.below(4), 8)
		for range 60 {
			b.something(&d)
			addrs, pairs := lists(b.x)
			if d.below(8) == 0 {
				other := d.below(4)
				pairs = append(pairs, b.x.Untold(other))
				b.p.untold(other)
			}
			for _, x := range addrs {
				if slices.ContainsFunc(x[len(x):cap(x)], func(addr int) bool { return addr != 0 }) {
					t.Fatalf("%d: behind %v is %v", seed, x, x[len(x):cap(x)])
				}
			}
			for _, x := range pairs {
				if slices.ContainsFunc(x[len(x):cap(x)], func(y path.Pair) bool { return y != pair(0, 0) }) {
					t.Fatalf("%d: behind %v is %v", seed, x, x[len(x):cap(x)])
				}
			}
		}
	}
}

// One changes nothing of another one.
func TestPathsAreApart(t *testing.T) {
	d, one, other := dice(7), newBoth(t, 0, 0, 8), newBoth(t, 0, 0, 8)
	for range 1500 {
		one.something(&d)
		other.look()
		other.something(&d)
		one.look()
	}
	one.rest()
	other.rest()
}

// R5

// log is what one answers to calls that the dice tell.
func log(seed int, between func()) string {
	d, said := dice(seed), ""
	p, e := path.New(d.below(4), d.below(4), d.below(10))
	said += fmt.Sprintln(int(e))
	for range 150 {
		switch x := d.addr(); d.below(10) {
		case 0, 1:
			said += fmt.Sprintln(int(p.Tell(x)))
		case 2:
			said += fmt.Sprintln(int(p.Untell(x)))
		case 3, 4:
			p.Told(x)
		case 5:
			said += fmt.Sprintln(p.Untold(x))
		case 6:
			said += fmt.Sprintln(p.Gone(x, d.addr()))
		default:
			said += fmt.Sprintln(int(p.Join(x, d.addr())))
		}
		between()
		next, is := p.Next()
		said += fmt.Sprintln(next, is, p.Own(), p.Other(), p.Pairs())
	}
	return said
}

// The same calls have the same answers, whatever else is asked between.
func TestSameCallsSameAnswers(t *testing.T) {
	for seed := range 60 {
		first := log(seed, func() {})
		b, d := newBoth(t, seed%4, 0, 8), dice(seed+1)
		if again := log(seed, func() { b.something(&d) }); first != again {
			t.Errorf("%d: other answers", seed)
		}
	}
}

// What is asked, and what is refused, changes nothing.
func TestAskingChangesNothing(t *testing.T) {
	b := all(t, 3)
	b.untells(3, api.OK)
	b.untolds(3)
	b.joins(2, 1, api.OK)
	for range 4 {
		b.is([]int{0, 1, 2}, []int{0, 1, 2}, list([2]int{0, 0}, [2]int{2, 1}))
		b.nextIs(0, 1)
		b.tells(2, api.ErrTwice)
		b.tells(4, api.ErrArg)
		b.untells(3, api.ErrNone)
		b.untells(-1, api.ErrArg)
		b.told(1)
		b.told(4)
		b.untolds(3)
		b.untolds(-1)
		b.joins(2, 1, api.ErrTwice)
		b.joins(3, 1, api.ErrNone)
		b.joins(1, 3, api.ErrNone)
		b.joins(1, 4, api.ErrArg)
		b.isGone(1, 1, false)
		b.isGone(9, 9, false)
	}
	b.joins(1, 2, api.OK)
	b.joins(0, 1, api.ErrFull)
}
