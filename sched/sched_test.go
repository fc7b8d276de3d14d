package sched_test

import (
	"math"
	"slices"
	"testing"

	"ferrybridge/api"
	"ferrybridge/sched"
)

// Paths of some sorts: the first two may send, if they count, and the last two may not.
var (
	plain   = api.Path{Ready: true, Smooth: 5}
	backup  = api.Path{Ready: true, Backup: true, Smooth: 1}
	notYet  = api.Path{}
	tooMuch = api.Path{Ready: true, Left: 4}
)

// smooth are paths that are able, with these smoothed times.
func smooth(times ...int) []api.Path {
	l := make([]api.Path, len(times))
	for i, n := range times {
		l[i] = api.Path{Ready: true, Smooth: n}
	}
	return l
}

// These hold what is answered against what is written.

func isAble(t *testing.T, l []api.Path, want ...int) {
	t.Helper()
	if got := sched.Able(l); !slices.Equal(got, want) {
		t.Errorf("Able(%v): %v, not %v", l, got, want)
	}
	bothAble(t, l)
}

func isPicked(t *testing.T, how, last int, l []api.Path, want ...int) {
	t.Helper()
	if got := sched.Pick(how, last, l...); !slices.Equal(got, want) {
		t.Errorf("Pick(%d, %d, %v): %v, not %v", how, last, l, got, want)
	}
	bothPick(t, how, last, l)
}

// The chapter's example

func TestExample(t *testing.T) {
	isPicked(t, api.PickTurn, 0, smooth(3, 3), 1)
}

// P17.1, of none

func TestNoPath(t *testing.T) {
	if l := sched.Able(nil); len(l) != 0 {
		t.Error(l)
	}
	if l := sched.Able([]api.Path{}); len(l) != 0 {
		t.Error(l)
	}
	for _, how := range edges {
		for _, last := range edges {
			if l := sched.Pick(how, last); len(l) != 0 {
				t.Error(how, last, l)
			}
			if l := sched.Pick(how, last, []api.Path{}...); len(l) != 0 {
				t.Error(how, last, l)
			}
		}
	}
}

// P17.1, Able

func TestAbleOfOne(t *testing.T) {
	for _, c := range []struct {
		left int
		is   bool
	}{
		{0, true}, {1, true}, {2, true}, {3, true}, {4, false}, {5, false}, {6, false}, {100, false}, {math.MaxInt - 1, false}, {math.MaxInt, false},
		{-1, true}, {-4, true}, {-5, true}, {math.MinInt + 1, true}, {math.MinInt, true},
		{1 << 32, false}, {1<<32 + 3, false}, {-1 << 32, true}, {4 - 1<<32, true}, {1 << 31, false}, {-1 << 31, true},
	} {
		for _, backup := range []bool{false, true} {
			for _, n := range edges {
				p := api.Path{Ready: true, Backup: backup, Smooth: n, Left: c.left}
				if c.is {
					isAble(t, []api.Path{p}, 0)
				} else {
					isAble(t, []api.Path{p})
				}
				p.Ready = false
				isAble(t, []api.Path{p})
			}
		}
	}
}

func TestAbleOfSeveral(t *testing.T) {
	for _, c := range []struct {
		l    []api.Path
		want []int
	}{
		{[]api.Path{plain, plain}, []int{0, 1}},
		{[]api.Path{plain, plain, plain, plain, plain, plain, plain, plain}, []int{0, 1, 2, 3, 4, 5, 6, 7}},
		{[]api.Path{notYet, plain}, []int{1}},
		{[]api.Path{plain, notYet}, []int{0}},
		{[]api.Path{plain, notYet, plain}, []int{0, 2}},
		{[]api.Path{notYet, plain, notYet}, []int{1}},
		{[]api.Path{notYet, notYet}, nil},
		{[]api.Path{tooMuch, plain}, []int{1}},
		{[]api.Path{plain, tooMuch}, []int{0}},
		{[]api.Path{tooMuch, tooMuch}, nil},
		{[]api.Path{tooMuch, plain, notYet, plain, tooMuch, notYet, plain}, []int{1, 3, 6}},
		{[]api.Path{{Ready: true, Left: 3}, {Ready: true, Left: 4}, {Ready: true, Left: 5}, {Ready: true, Left: -1}, {Left: 3}, {Left: -1}}, []int{0, 3}},
	} {
		isAble(t, c.l, c.want...)
	}
}

// They stand by their places, whatever their smoothed times are.
func TestAbleIsRising(t *testing.T) {
	isAble(t, smooth(9, 8, 7, 6, 5, 4, 3, 2, 1), 0, 1, 2, 3, 4, 5, 6, 7, 8)
	isAble(t, smooth(math.MaxInt, 0, math.MinInt), 0, 1, 2)
}

// P17.1, backups

func TestBackups(t *testing.T) {
	backupTooMuch := api.Path{Ready: true, Backup: true, Left: 4}
	backupNotYet := api.Path{Backup: true}
	for _, c := range []struct {
		l    []api.Path
		want []int
	}{
		// no other one at all
		{[]api.Path{backup}, []int{0}},
		{[]api.Path{backup, backup}, []int{0, 1}},
		{[]api.Path{backup, backupTooMuch, backup}, []int{0, 2}},
		{[]api.Path{backupNotYet, backup}, []int{1}},
		{[]api.Path{backupTooMuch, backupNotYet}, nil},
		// another one that is Ready, ahead and behind
		{[]api.Path{plain, backup}, []int{0}},
		{[]api.Path{backup, plain}, []int{1}},
		{[]api.Path{backup, plain, backup}, []int{1}},
		{[]api.Path{plain, backup, plain}, []int{0, 2}},
		// it is Ready, but has too much: the backups don't count for that
		{[]api.Path{tooMuch, backup}, nil},
		{[]api.Path{backup, tooMuch}, nil},
		{[]api.Path{backup, backup, tooMuch, backup}, nil},
		{[]api.Path{tooMuch, backup, plain}, []int{2}},
		{[]api.Path{backup, {Ready: true, Left: math.MaxInt}}, nil},
		// it isn't Ready
		{[]api.Path{notYet, backup}, []int{1}},
		{[]api.Path{backup, notYet}, []int{0}},
		{[]api.Path{notYet, backup, {Left: 4}, backup}, []int{1, 3}},
		{[]api.Path{notYet, backup, plain}, []int{2}},
		{[]api.Path{notYet, backupTooMuch, notYet}, nil},
		// a backup that is Ready, or not, takes nothing from another one
		{[]api.Path{backupTooMuch, backup, backupNotYet, backup}, []int{1, 3}},
	} {
		isAble(t, c.l, c.want...)
		isPicked(t, api.PickAll, 0, c.l, c.want...)
		first := c.want[:min(len(c.want), 1)]
		isPicked(t, api.PickQuick, 0, c.l, first...)
		isPicked(t, api.PickTurn, -1, c.l, first...)
		isPicked(t, api.PickTurn, len(c.l), c.l, first...)
	}
}

// A backup's smoothed time is the least one, and it stands behind last: it isn't picked, while it doesn't count.
func TestBackupIsNotPicked(t *testing.T) {
	l := []api.Path{plain, backup, plain, backup}
	isPicked(t, api.PickQuick, 0, l, 0)
	isPicked(t, api.PickTurn, 0, l, 2)
	isPicked(t, api.PickTurn, 2, l, 0)
	isPicked(t, api.PickAll, 0, l, 0, 2)
}

// P17.1, PickQuick

func TestQuick(t *testing.T) {
	for _, c := range []struct {
		l    []api.Path
		want int
	}{
		{smooth(5), 0},
		{smooth(1, 2, 3), 0},
		{smooth(2, 1, 3), 1},
		{smooth(3, 2, 1), 2},
		// of several the first one
		{smooth(0, 0), 0},
		{smooth(7, 7, 7), 0},
		{smooth(7, 3, 3), 1},
		{smooth(3, 7, 3), 0},
		{smooth(9, 3, 7, 3, 3), 1},
		// the least and the greatest one
		{smooth(math.MaxInt), 0},
		{smooth(math.MinInt), 0},
		{smooth(math.MaxInt, math.MinInt), 1},
		{smooth(math.MinInt, math.MaxInt), 0},
		{smooth(math.MaxInt, math.MaxInt), 0},
		{smooth(math.MinInt, math.MinInt), 0},
		{smooth(math.MaxInt, math.MaxInt-1), 1},
		{smooth(math.MinInt+1, math.MinInt), 1},
		{smooth(math.MaxInt, 0, math.MinInt, math.MinInt), 2},
		{smooth(0, -1), 1},
		{smooth(-1, 0), 0},
		{smooth(1, math.MaxInt, math.MinInt), 2},
		{smooth(1<<32, 1), 1},
		{smooth(1, 1-1<<32), 1},
		// not of those that aren't able
		{[]api.Path{notYet, plain}, 1},
		{[]api.Path{tooMuch, plain}, 1},
		{[]api.Path{backup, plain}, 1},
		{[]api.Path{{Smooth: math.MinInt}, {Ready: true, Left: 4, Smooth: -9}, {Ready: true, Smooth: 9}, {Ready: true, Smooth: 8, Left: 3}}, 3},
	} {
		for _, last := range edges {
			isPicked(t, api.PickQuick, last, c.l, c.want)
		}
	}
}

// Nothing but Smooth tells them apart: not how many pieces they have, nor that they are backups.
func TestQuickBySmoothAlone(t *testing.T) {
	isPicked(t, api.PickQuick, 0, []api.Path{{Ready: true, Smooth: 3, Left: 3}, {Ready: true, Smooth: 3, Left: 0}}, 0)
	isPicked(t, api.PickQuick, 0, []api.Path{{Ready: true, Smooth: 3, Left: 0}, {Ready: true, Smooth: 2, Left: 3}}, 1)
	isPicked(t, api.PickQuick, 0, []api.Path{{Ready: true, Backup: true, Smooth: 3}, {Backup: true}, {Ready: true, Backup: true, Smooth: 2, Left: 3}}, 2)
}

// P17.1, PickTurn

// All are able: the next one, and behind the last one the first one.
func TestTurn(t *testing.T) {
	for many := 1; many <= 9; many++ {
		l := make([]api.Path, many)
		for i := range l {
			l[i] = plain
		}
		for last := -3; last < many+3; last++ {
			want := last + 1
			if want < 0 || want >= many {
				want = 0
			}
			isPicked(t, api.PickTurn, last, l, want)
		}
		for _, last := range []int{math.MinInt, math.MinInt + 1, -1 << 32, 1 - 1<<32, 1 << 32, 1<<32 + 1, math.MaxInt - 1, math.MaxInt} {
			isPicked(t, api.PickTurn, last, l, 0)
		}
	}
}

// Those that aren't able are gone over, at the ends too; last itself needn't be able.
func TestTurnGoesOver(t *testing.T) {
	l := []api.Path{notYet, plain, tooMuch, backup, plain, notYet}
	for last, want := range map[int]int{math.MinInt: 1, -1: 1, 0: 1, 1: 4, 2: 4, 3: 4, 4: 1, 5: 1, 6: 1, 7: 1, math.MaxInt: 1} {
		isPicked(t, api.PickTurn, last, l, want)
	}
}

// Where one alone is able it is picked, whatever last is, also if it is the one at last.
func TestTurnOfOne(t *testing.T) {
	for place := range 5 {
		l := []api.Path{notYet, tooMuch, notYet, backup, tooMuch}
		l[place] = plain
		for _, last := range edges {
			isPicked(t, api.PickTurn, last, l, place)
		}
	}
}

// Each one's turn comes: from place to place as last is the one that was picked.
func TestTurnGoesRound(t *testing.T) {
	l := []api.Path{plain, notYet, plain, tooMuch, plain, plain, backup}
	last := -1
	for range 3 {
		for _, want := range []int{0, 2, 4, 5} {
			isPicked(t, api.PickTurn, last, l, want)
			last = want
		}
	}
}

// P17.1, PickAll

func TestAll(t *testing.T) {
	for _, last := range edges {
		isPicked(t, api.PickAll, last, []api.Path{plain}, 0)
		isPicked(t, api.PickAll, last, []api.Path{plain, plain, plain}, 0, 1, 2)
		isPicked(t, api.PickAll, last, smooth(3, 2, 1, 2), 0, 1, 2, 3)
		isPicked(t, api.PickAll, last, []api.Path{notYet, plain, tooMuch, backup, plain, notYet}, 1, 4)
		isPicked(t, api.PickAll, last, []api.Path{backup, notYet, backup}, 0, 2)
	}
}

// P17.1, none

func TestNoSuchWay(t *testing.T) {
	for _, how := range []int{-1, 3, 4, -2, -3, 1 << 32, 1<<32 + 1, 1<<32 + 2, -1 << 32, 1 - 1<<32, 1 << 8, 1 << 16, 1 << 31, math.MaxInt - 1, math.MaxInt, math.MinInt, math.MinInt + 1, math.MinInt + 2} {
		for _, last := range edges {
			isPicked(t, how, last, []api.Path{plain})
			isPicked(t, how, last, []api.Path{plain, backup, plain})
		}
	}
}

func TestNoneIsAble(t *testing.T) {
	for _, l := range [][]api.Path{{notYet}, {tooMuch}, {notYet, tooMuch}, {backup, tooMuch}, {{Backup: true}, {Ready: true, Backup: true, Left: 4}}} {
		isAble(t, l)
		for _, how := range edges {
			for _, last := range edges {
				isPicked(t, how, last, l)
			}
		}
	}
}
