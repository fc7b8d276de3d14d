package close_test

import (
	"slices"
	"testing"

	"ferrybridge/close"
)

// R4, what is handed in

// It stays as it was, spare room included.
func TestGivenIsNotChanged(t *testing.T) {
	for seed := range 300 {
		d := dice(seed)
		whole := make([]int, 12)
		for i := range whole {
			whole[i] = d.below(11) - 1
			if i > 0 && d.below(3) > 0 {
				whole[i], _ = step(whole[i-1], d.below(6))
			}
		}
		was := slices.Clone(whole)
		for many := range len(whole) + 1 {
			bothPath(t, whole[:many])
			bothPath(t, whole[:many:many])
			if !slices.Equal(whole, was) {
				t.Fatalf("%d, %d: %v became %v", seed, many, was, whole)
			}
		}
	}
}

// Nor is it kept: what is written over it behind the call is asked for as it is then.
func TestGivenIsNotKept(t *testing.T) {
	l := []int{0, 1, 2, 5, 7, 8}
	for range 3 {
		isPath(t, true, l...)
		l[1] = 3
		isPath(t, false, l...)
		l[1] = 1
	}
}

// R5

// The same calls have the same answers, whatever was asked between.
func TestSameAgain(t *testing.T) {
	type answer struct {
		to                    int
		is, writes, reads, at bool
	}
	all := func() []answer {
		var l []answer
		for _, state := range slices.Concat(states, noState) {
			for _, event := range slices.Concat(events, noEvent) {
				to, is := close.Step(state, event)
				l = append(l, answer{to, is, close.Writes(state), close.Reads(state), close.Path(state, event, to)})
			}
		}
		return l
	}
	first := all()
	d := dice(1)
	for range 3 {
		for range 1000 {
			close.Step(d.below(12)-2, d.below(9)-2)
			close.Path(d.below(12)-2, d.below(12)-2, d.below(12)-2)
		}
		if !slices.Equal(all(), first) {
			t.Fatal("they differ")
		}
	}
}
