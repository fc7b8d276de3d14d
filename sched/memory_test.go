package sched_test

import (
	"fmt"
	"slices"
	"testing"

	"ferrybridge/api"
	"ferrybridge/sched"
)

// calls are all that there are, of l.
func calls(last int, l []api.Path) [][]int {
	told := [][]int{sched.Able(l)}
	for how := -1; how <= 3; how++ {
		told = append(told, sched.Pick(how, last, l...))
	}
	return told
}

// R4, what is handed in

// It stays as it was, spare room included.
func TestGivenIsNotChanged(t *testing.T) {
	for seed := range 300 {
		d := dice(seed)
		whole := d.paths(12)
		was := slices.Clone(whole)
		for many := range len(whole) + 1 {
			for _, told := range calls(d.below(14)-1, whole[:many]) {
				scribble(told)
			}
			calls(d.below(14)-1, whole[:many:many])
			if !slices.Equal(whole, was) {
				t.Fatalf("%d, %d: %v became %v", seed, many, was, whole)
			}
		}
	}
}

// R4, what is answered

// scribble writes over all of l, spare room included.
func scribble(l []int) {
	l = l[:cap(l)]
	for i := range l {
		l[i] = -77
	}
}

// No answer shares memory with an earlier one of the same call or another one, spare room included.
func TestAnswerIsNewMemory(t *testing.T) {
	for seed := range 300 {
		d := dice(seed)
		l := d.paths(d.below(10))
		last := d.below(12) - 1
		told := append(calls(last, l), calls(last, l)...)
		var was [][]int
		for _, x := range told {
			was = append(was, slices.Clone(x[:cap(x)]))
		}
		for i, x := range told {
			scribble(x)
			for j := i + 1; j < len(told); j++ {
				if y := told[j]; !slices.Equal(y[:cap(y)], was[j]) {
					t.Fatalf("%d: the answer %d shares memory with the answer %d", seed, i, j)
				}
			}
		}
		// Nor is anything kept of what was written over.
		for i, x := range calls(last, l) {
			if !slices.Equal(x, was[i][:len(x)]) || len(x) != len(told[i]) {
				t.Fatalf("%d: the answer %d became %v", seed, i, x)
			}
		}
	}
}

// An answer's spare room has no other places.
func TestAnswerHasNoMore(t *testing.T) {
	for seed := range 300 {
		d := dice(seed)
		for i, x := range calls(d.below(12)-1, d.paths(d.below(20))) {
			for _, n := range x[len(x):cap(x)] {
				if n != 0 {
					t.Fatalf("%d: behind the answer %d, %v, is %d", seed, i, x, n)
				}
			}
		}
	}
}

// R5

// Asked again each call answers likewise, whatever was asked between, and where the paths lie.
func TestSameArgumentsSameAnswers(t *testing.T) {
	for seed := range 500 {
		d := dice(seed)
		l, last := d.paths(d.below(10)), d.below(12)-1
		first := fmt.Sprint(calls(last, l))
		for range 4 {
			calls(d.some(edges), d.paths(d.below(10)))
			if again := fmt.Sprint(calls(last, append(make([]api.Path, 0, 16), l...))); again != first {
				t.Fatalf("%d: %s, %s", seed, first, again)
			}
		}
	}
}

// What was picked isn't kept: the turn hangs on last alone.
func TestTurnIsNotKept(t *testing.T) {
	l := smooth(1, 1, 1)
	for range 5 {
		isPicked(t, api.PickTurn, 0, l, 1)
		isPicked(t, api.PickTurn, 2, l, 0)
		isPicked(t, api.PickTurn, -1, l, 0)
		isPicked(t, api.PickTurn, 1, l, 2)
	}
}
