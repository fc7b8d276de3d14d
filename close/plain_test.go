package close_test

import (
	"slices"
	"testing"

	"ferrybridge/close"
)

// dice are numbers of all sorts, always the same.
type dice uint64

func (d *dice) below(n int) int {
	*d = *d*6364136223846793005 + 1442695040888963407
	return int(uint64(*d)>>33) % n
}

// some is one of l.
func (d *dice) some(l []int) int { return l[d.below(len(l))] }

// The plain way: a text for each state, with a place for each event, which is the state that it leads to, or a dot.

func grid() []string {
	return []string{
		"1....8",
		".2.4.8",
		"..35.8",
		"...7.8",
		".6...8",
		"..7..8",
		"..7..8",
		"....88",
		"......",
	}
}

func step(state, event int) (int, bool) {
	g := grid()
	if state < 0 || state >= len(g) || event < 0 || event >= len(g[state]) || g[state][event] == '.' {
		return state, false
	}
	return int(g[state][event] - '0'), true
}

// next tells whether the state from is to, or leads there.
func next(from, to int) bool {
	if from == to {
		return true
	}
	if g := grid(); from >= 0 && from < len(g) && to >= 0 && to <= 9 {
		return slices.Contains([]byte(g[from]), byte('0'+to))
	}
	return false
}

// isWay asks for the last step first.
func isWay(l []int) bool {
	for len(l) > 1 {
		if !next(l[len(l)-2], l[len(l)-1]) {
			return false
		}
		l = l[:len(l)-1]
	}
	return true
}

// These hold the calls against the plain way.

func bothStep(t *testing.T, state, event int) {
	t.Helper()
	to, is := close.Step(state, event)
	if wantTo, want := step(state, event); to != wantTo || is != want {
		t.Errorf("Step(%d, %d): %d, %v, not %d, %v", state, event, to, is, wantTo, want)
	}
}

func bothPath(t *testing.T, l []int) {
	t.Helper()
	if is := close.Path(l...); is != isWay(l) {
		if len(l) > 20 {
			l = l[:20]
		}
		t.Errorf("Path(%v ..): %v", l, is)
	}
}

func TestStepLikeThePlainWay(t *testing.T) {
	for state := -300; state < 300; state++ {
		for event := -300; event < 300; event++ {
			bothStep(t, state, event)
		}
	}
}

// All rows of up to five of the numbers from -1 to 9.
func TestPathLikeThePlainWay(t *testing.T) {
	many := 1
	for long := range 6 {
		for n := range many {
			l := make([]int, long)
			for i := range l {
				l[i] = n%11 - 1
				n /= 11
			}
			bothPath(t, l)
		}
		many *= 11
	}
}

// Rows that go by the moves, mostly, with a state here and there that they don't lead to.
func TestPathOfRowsLikeThePlainWay(t *testing.T) {
	right := 0
	for seed := range 5000 {
		d := dice(seed)
		l := []int{d.below(9)}
		for range d.below(40) {
			to, _ := step(l[len(l)-1], d.below(5))
			if d.below(30) == 0 {
				to = d.some(slices.Concat(states, noState))
			}
			l = append(l, to)
		}
		bothPath(t, l)
		if isWay(l) {
			right++
		}
	}
	if right < 1000 || right > 4000 {
		t.Error("the rows are too much alike", right)
	}
}
