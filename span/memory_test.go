package span_test

import (
	"fmt"
	"slices"
	"testing"

	"ferrybridge/span"
)

// R4, what is handed in

func TestGivenIsNotChanged(t *testing.T) {
	whole := []run{{9, 2}, {3, 1}, {-4, 6}, {3, 1}, {top - 1, 5}, {11, 0}, {4, 9}, {1, -1}, {30, 2}}
	was := slices.Clone(whole)
	for n := range len(whole) + 1 {
		s := span.New(whole[:n]...)
		s.Add(0, 50)
		s.Drop(20)
		s.Add(1, 3)
		scribble(s.Runs())
		if !slices.Equal(whole, was) {
			t.Errorf("New(%v): it became %v", was[:n], whole)
		}
	}
}

// What was handed in may change: a set keeps nothing of it.
func TestGivenIsNotKept(t *testing.T) {
	for n := range 20 {
		given := make([]run, n, n+5)
		for i := range given {
			given[i] = run{5 * i, 2}
		}
		b := small(t, given...)
		scribble(given)
		b.look()
		b.add(3, 9)
		b.drop(7)
		b.look()
	}
}

// R4, what is answered

// scribble writes over all of l, spare room included.
func scribble(l []run) {
	l = l[:cap(l)]
	for i := range l {
		l[i] = run{70 + i, -7}
	}
}

func TestAnswerIsNewMemory(t *testing.T) {
	for many := range 30 {
		b := small(t)
		for i := range many {
			b.add(4*i, 2)
		}
		for _, below := range []int{0, 1, 4, 9} {
			b.drop(below)
			first := b.x.Runs()
			was, spare := slices.Clone(first), slices.Clone(first[:cap(first)])
			// What comes behind it neither reaches an earlier answer nor its spare room.
			second := b.x.Runs()
			b.add(11, 1)
			b.add(13, 6)
			b.drop(below + 1)
			b.add(4*many, 1)
			scribble(second)
			scribble(b.x.Runs())
			if !slices.Equal(first, was) || !slices.Equal(first[:cap(first)], spare) {
				t.Errorf("%d: %v became %v", many, was, first)
			}
			// And a set goes on as it would if its answers are written over.
			scribble(first)
			b.look()
			b.add(6, 3)
			b.add(4*many+2, 1)
			b.look()
		}
	}
}

// One set changes nothing of another one's, also if it came of the other one's runs.
func TestSetsAreApart(t *testing.T) {
	l := []run{{3, 2}, {8, 4}, {20, 1}, {30, 9}}
	one, other := small(t, l...), small(t, l...)
	third := small(t, one.x.Runs()...)
	d := dice(9)
	for range 300 {
		for _, b := range []both{one, other, third} {
			b.something(&d, d.below(70)-5, d.below(6)-1)
		}
		one.look()
		other.look()
		third.look()
	}
}

// R5

// log is what a set answers to calls that the dice tell.
func log(seed int, between func()) string {
	d, s, said := dice(seed), span.New(run{9, 2}, run{3, 3}), ""
	for range 200 {
		from, long := d.below(80)-5, d.below(9)-1
		if d.below(5) == 0 {
			said += fmt.Sprintln(s.Drop(from))
		} else {
			said += fmt.Sprintln(s.Add(from, long))
		}
		between()
		said += fmt.Sprintln(s.Has(from), s.Next(from), s.Many(), s.Runs())
	}
	return said
}

// The same calls have the same answers, whatever else is asked between.
func TestSameCallsSameAnswers(t *testing.T) {
	for seed := range 30 {
		first := log(seed, func() {})
		b, d := small(t, run{4, 4}), dice(seed+1)
		again := log(seed, func() { b.something(&d, d.below(80), d.below(9)) })
		if first != again {
			t.Errorf("%d: other answers", seed)
		}
	}
}

// The runs are the same whatever way the same numbers came to be in the set.
func TestRunsAreTheSame(t *testing.T) {
	want := []run{{2, 3}, {7, 1}, {9, 4}}
	numbers := []int{2, 3, 4, 7, 9, 10, 11, 12}
	d := dice(2)
	for range 300 {
		for i := range numbers {
			j := d.below(i + 1)
			numbers[i], numbers[j] = numbers[j], numbers[i]
		}
		b := small(t)
		for _, n := range numbers {
			b.added(n, 1, 1)
		}
		b.holds(8, want...)
	}
}

// What is asked changes nothing: asked again it is told likewise; nor does what adds, or drops, nothing.
func TestAskingChangesNothing(t *testing.T) {
	b := small(t, run{3, 2}, run{8, 4}, run{20, 1})
	for range 4 {
		b.added(8, 4, 0)
		b.added(9, 0, 0)
		b.added(30, -4, 0)
		b.added(-9, 9, 0)
		b.added(top, 1, 0)
		b.dropped(3, 0)
		b.dropped(-1, 0)
		for n := -3; n < 40; n++ {
			b.ask(n)
		}
		b.holds(7, run{3, 2}, run{8, 4}, run{20, 1})
	}
}
