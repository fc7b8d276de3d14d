package wheel_test

import (
	"fmt"
	"math"
	"slices"
	"testing"

	"ferrybridge/wheel"
)

// R4, what is handed in

func TestGivenIsNotChanged(t *testing.T) {
	for n := range 5 {
		whole := []int{4, 1, 4, 2, 9, 3, 5, 6}
		was := slices.Clone(whole)
		w := wheel.New(0)
		for h := range 10 {
			w.Arm(h, 10+h)
		}
		given := whole[:n]
		w.Cancel(given...)
		w.Advance(12)
		w.Cancel(given...)
		w.Arm(4, 100)
		w.Advance(200)
		if !slices.Equal(whole, was) {
			t.Errorf("Cancel(%d): %d became %d", given, was, whole)
		}
	}
}

// What was handed in may change: the wheel keeps nothing of it.
func TestGivenIsNotKept(t *testing.T) {
	w := wheel.New(0)
	for h := range 5 {
		w.Arm(h, 10)
	}
	given := []int{1, 2, 77}
	w.Cancel(given...)
	given[0], given[1], given[2] = 3, 4, 0
	if w.Len() != 3 {
		t.Error(w.Len())
	}
	told(t, w, 10, dues(0, 10, 3, 10, 4, 10))
}

// R4, what is answered

// scribble writes over all of l, spare room included.
func scribble(l []wheel.Due) {
	l = l[:cap(l)]
	for i := range l {
		l[i] = wheel.Due{Handle: -77, Tick: -78}
	}
}

func TestAnswerIsNewMemory(t *testing.T) {
	for many := range 20 {
		b, kept := newBoth(t, 0), wheel.New(0)
		for h := range 60 {
			b.arm(h, 5+h)
			kept.Arm(h, 5+h)
		}
		first := kept.Advance(4 + many)
		if len(first) != many {
			t.Fatalf("%d: %v", many, first)
		}
		was := slices.Clone(first)
		spare := slices.Clone(first[:cap(first)])
		// What comes behind it neither reaches an earlier answer nor its spare room.
		second := kept.Advance(30 + many)
		kept.Arm(1, 100)
		scribble(second)
		kept.Advance(5000)
		if !slices.Equal(first, was) || !slices.Equal(first[:cap(first)], spare) {
			t.Errorf("%d: %v became %v", many, was, first)
		}
		// And a wheel goes on as it would if its answers are written over.
		for range 20 {
			b.p.advance(b.p.now + many)
			scribble(b.w.Advance(b.w.Now() + many))
			b.look()
		}
		b.end()
	}
}

// One wheel changes nothing of another one's.
func TestWheelsAreApart(t *testing.T) {
	one, other, third := newBoth(t, 0), newBoth(t, 0), newBoth(t, latest)
	d := dice(9)
	for range 400 {
		for _, b := range []both{one, other, third} {
			anything(b, &d)
		}
		one.look()
		other.look()
		third.look()
	}
	one.end()
	other.look()
	other.end()
	third.look()
	third.end()
}

// R5

// log is what a wheel answers to calls that the dice tell.
func log(seed int, between func()) string {
	d, w, said := dice(seed), wheel.New(seed*37), ""
	for range 300 {
		h, tick := d.below(60)-30, w.Now()+d.below(600)-20
		switch d.below(5) {
		case 0:
			said += fmt.Sprintln(w.Advance(tick))
		case 1:
			said += fmt.Sprintln(w.Cancel(h, h+1))
		default:
			said += fmt.Sprintln(w.Arm(h, tick))
		}
		between()
		at, is := w.At(h)
		next, has := w.Next()
		said += fmt.Sprintln(at, is, next, has, w.Now(), w.Len())
	}
	return said + fmt.Sprintln(w.Advance(math.MaxInt))
}

// The same calls have the same answers, whatever else is asked between.
func TestSameCallsSameAnswers(t *testing.T) {
	for seed := range 30 {
		first := log(seed, func() {})
		w := newBoth(t, 5)
		d := dice(seed + 1)
		again := log(seed, func() { anything(w, &d) })
		if first != again {
			t.Errorf("%d: other answers", seed)
		}
	}
}

// What is asked changes nothing: asked again it is told likewise.
func TestAskingChangesNothing(t *testing.T) {
	b := newBoth(t, 100)
	for h, d := range edges {
		b.arm(h, 100+d)
		for range 3 {
			b.look()
		}
	}
	b.end()
}
