package close_test

import (
	"math"
	"slices"
	"testing"

	"ferrybridge/api"
	"ferrybridge/close"
)

// states are all that there are, events all that move them.
var (
	states = []int{api.CInit, api.COpen, api.CFin1, api.CFin2, api.CCloseWait, api.CClosing, api.CLastAck, api.CTimeWait, api.CClosed}
	events = []int{api.EOpen, api.EClose, api.EAcked, api.EFin, api.EDone, api.EAbort}
)

// move is a row of the chapter's table.
type move struct {
	from, by, to int
}

// table is the chapter's, its last row told state by state.
var table = []move{
	{api.CInit, api.EOpen, api.COpen},
	{api.COpen, api.EClose, api.CFin1},
	{api.COpen, api.EFin, api.CCloseWait},
	{api.CFin1, api.EAcked, api.CFin2},
	{api.CFin1, api.EFin, api.CClosing},
	{api.CFin2, api.EFin, api.CTimeWait},
	{api.CCloseWait, api.EClose, api.CLastAck},
	{api.CClosing, api.EAcked, api.CTimeWait},
	{api.CLastAck, api.EAcked, api.CTimeWait},
	{api.CTimeWait, api.EDone, api.CClosed},
	{api.CInit, api.EAbort, api.CClosed},
	{api.COpen, api.EAbort, api.CClosed},
	{api.CFin1, api.EAbort, api.CClosed},
	{api.CFin2, api.EAbort, api.CClosed},
	{api.CCloseWait, api.EAbort, api.CClosed},
	{api.CClosing, api.EAbort, api.CClosed},
	{api.CLastAck, api.EAbort, api.CClosed},
	{api.CTimeWait, api.EAbort, api.CClosed},
}

// noState are numbers that are none, below the least and above the greatest.
var noState = []int{-1, 9, -2, 10, 99, math.MinInt, math.MaxInt, math.MinInt + 1, math.MaxInt - 1, 1 << 32, 1<<32 + 1, 1<<32 + 8, 1 - 1<<32, -1 << 31, 1<<31 - 1, 1 << 8, 1<<8 + 1, 1<<16 + 1}

// noEvent are numbers that move nothing, below the least and above the greatest.
var noEvent = []int{-1, 6, -2, 7, 99, math.MinInt, math.MaxInt, math.MinInt + 1, math.MaxInt - 1, 1 << 32, 1<<32 + 1, 1<<32 + 5, 5 - 1<<32, -1 << 31, 1<<31 - 1, 1 << 8, 1<<8 + 5, 1<<16 + 5}

// These hold what is answered against what is written.

func isMoved(t *testing.T, state, event, want int) {
	t.Helper()
	if to, is := close.Step(state, event); to != want || !is {
		t.Errorf("Step(%d, %d): %d, %v, not %d", state, event, to, is, want)
	}
	bothStep(t, state, event)
}

func isNotMoved(t *testing.T, state, event int) {
	t.Helper()
	if to, is := close.Step(state, event); to != state || is {
		t.Errorf("Step(%d, %d): %d, %v, but there is no such move", state, event, to, is)
	}
	bothStep(t, state, event)
}

func isPath(t *testing.T, want bool, l ...int) {
	t.Helper()
	if is := close.Path(l...); is != want {
		t.Errorf("Path(%v): %v", l, is)
	}
	bothPath(t, l)
}

// The chapter's example

func TestExample(t *testing.T) {
	isMoved(t, api.CFin1, api.EFin, api.CClosing)
}

// P19.1, Step

func TestStepOfTheTable(t *testing.T) {
	for _, m := range table {
		isMoved(t, m.from, m.by, m.to)
	}
}

func TestStepOfNoMove(t *testing.T) {
	many := 0
	for _, state := range states {
		for _, event := range events {
			if !slices.ContainsFunc(table, func(m move) bool { return m.from == state && m.by == event }) {
				isNotMoved(t, state, event)
				many++
			}
		}
	}
	if many != len(states)*len(events)-len(table) {
		t.Error(many)
	}
}

func TestStepOfNoState(t *testing.T) {
	for _, state := range noState {
		for _, event := range events {
			isNotMoved(t, state, event)
		}
	}
}

func TestStepOfNoEvent(t *testing.T) {
	for _, event := range noEvent {
		for _, state := range states {
			isNotMoved(t, state, event)
		}
		for _, state := range noState {
			isNotMoved(t, state, event)
		}
	}
}

// The numbers of the api's names are those of the document.
func TestStepByNumbers(t *testing.T) {
	for _, m := range []move{{0, 0, 1}, {1, 1, 2}, {1, 3, 4}, {2, 2, 3}, {2, 3, 5}, {3, 3, 7}, {4, 1, 6}, {5, 2, 7}, {6, 2, 7}, {7, 4, 8}, {7, 5, 8}, {0, 5, 8}} {
		isMoved(t, m.from, m.by, m.to)
	}
	isNotMoved(t, 8, 5)
}

// P19.1, Writes and Reads

func TestWrites(t *testing.T) {
	for state, want := range []bool{api.CInit: false, api.COpen: true, api.CFin1: false, api.CFin2: false, api.CCloseWait: true, api.CClosing: false, api.CLastAck: false, api.CTimeWait: false, api.CClosed: false} {
		if is := close.Writes(state); is != want {
			t.Error(state, is)
		}
	}
	for _, state := range noState {
		if close.Writes(state) {
			t.Error(state)
		}
	}
}

func TestReads(t *testing.T) {
	for state, want := range []bool{api.CInit: false, api.COpen: true, api.CFin1: true, api.CFin2: true, api.CCloseWait: false, api.CClosing: false, api.CLastAck: false, api.CTimeWait: false, api.CClosed: false} {
		if is := close.Reads(state); is != want {
			t.Error(state, is)
		}
	}
	for _, state := range noState {
		if close.Reads(state) {
			t.Error(state)
		}
	}
}

// Where this side's end is told by some move it may write; where the other one's comes by some move, its data may.
func TestWritesAndReadsGoByTheMoves(t *testing.T) {
	for _, state := range slices.Concat(states, noState) {
		if _, is := close.Step(state, api.EClose); is != close.Writes(state) {
			t.Error("it may write, or may not", state)
		}
		if _, is := close.Step(state, api.EFin); is != close.Reads(state) {
			t.Error("it may read, or may not", state)
		}
	}
}

// P19.1, Path

func TestPathOfNone(t *testing.T) {
	isPath(t, true)
	isPath(t, true, nil...)
	isPath(t, true, []int{}...)
	isPath(t, true, states[3:3]...)
}

func TestPathOfOne(t *testing.T) {
	for _, state := range slices.Concat(states, noState) {
		isPath(t, true, state)
	}
}

func TestPathOfTheSame(t *testing.T) {
	for _, state := range slices.Concat(states, noState) {
		for many := range 70 {
			isPath(t, true, slices.Repeat([]int{state}, many)...)
		}
	}
}

func TestPathOfTwo(t *testing.T) {
	for _, from := range states {
		for _, to := range states {
			joined := slices.ContainsFunc(table, func(m move) bool { return m.from == from && m.to == to })
			isPath(t, joined || from == to, from, to)
		}
	}
}

func TestPathOfMovesTurnedAbout(t *testing.T) {
	for _, m := range table {
		isPath(t, true, m.from, m.to)
		isPath(t, false, m.to, m.from)
		isPath(t, true, m.from, m.from, m.to, m.to)
		isPath(t, false, m.from, m.to, m.from)
	}
}

func TestPathOfNoState(t *testing.T) {
	for _, one := range noState {
		for _, other := range states {
			isPath(t, false, one, other)
			isPath(t, false, other, one)
			isPath(t, false, one, one, other)
			isPath(t, false, other, one, one)
			isPath(t, false, other, one, other)
		}
		for _, other := range noState {
			isPath(t, one == other, one, other)
		}
	}
}

// ways are all rows that the table tells from CInit to CClosed.
func ways(l ...int) [][]int {
	last := l[len(l)-1]
	if last == api.CClosed {
		return [][]int{slices.Clone(l)}
	}
	var all [][]int
	for _, m := range table {
		if m.from == last {
			all = append(all, ways(append(slices.Clone(l), m.to)...)...)
		}
	}
	return all
}

func TestPathOfWholeWays(t *testing.T) {
	all := ways(api.CInit)
	if !slices.ContainsFunc(all, func(l []int) bool { return slices.Equal(l, []int{0, 1, 2, 5, 7, 8}) }) {
		t.Error("the way of two ends told at once isn't among them")
	}
	for _, l := range all {
		isPath(t, true, l...)
		// A step left out breaks it, but where the way from one to the other is one by itself.
		for i := 1; i+1 < len(l); i++ {
			one := slices.ContainsFunc(table, func(m move) bool { return m.from == l[i-1] && m.to == l[i+1] })
			isPath(t, one, slices.Delete(slices.Clone(l), i, i+1)...)
		}
		slices.Reverse(l)
		isPath(t, false, l...)
	}
}

// slow is a way on which each state is told so many times.
func slow(l []int, times int) []int {
	var long []int
	for _, state := range l {
		long = append(long, slices.Repeat([]int{state}, times)...)
	}
	return long
}

// Rows of thousands, one state after another one, which break at one step alone.
func TestPathOfLongRows(t *testing.T) {
	for _, l := range ways(api.CInit) {
		long := slow(l, 1000)
		isPath(t, true, long...)
		last := len(long) - 1
		for _, place := range []int{0, 1, 999, 1000, len(long) / 2, last - 1, last} {
			for _, other := range slices.Concat(states, noState[:4]) {
				broken := slices.Clone(long)
				broken[place] = other
				bothPath(t, broken)
			}
		}
	}
	long := slow([]int{0, 1, 2, 3, 7, 8}, 1000)
	isPath(t, false, append([]int{api.CFin1}, long...)...)
	isPath(t, false, append([]int{99}, long...)...)
	isPath(t, false, append(long, api.CTimeWait)...)
	isPath(t, false, append(long, api.CInit)...)
	isPath(t, false, slices.Insert(slices.Clone(long), 3000, api.CClosed)...)
	isPath(t, false, slices.Insert(slices.Clone(long), 2500, api.COpen)...)
}

// P19.2

// orders are all of the events, each of them once.
func orders(l ...int) [][]int {
	if len(l) < 2 {
		return [][]int{slices.Clone(l)}
	}
	var all [][]int
	for i, first := range l {
		rest := slices.Delete(slices.Clone(l), i, i+1)
		for _, o := range orders(rest...) {
			all = append(all, append([]int{first}, o...))
		}
	}
	return all
}

// run steps by all of them, and answers where that leads.
func run(state int, by ...int) int {
	for _, event := range by {
		state, _ = close.Step(state, event)
	}
	return state
}

// Each order, gone through again and again, ends at CClosed: no state has more than four moves to it.
func TestClosedIsReached(t *testing.T) {
	all := orders(api.EClose, api.EAcked, api.EFin, api.EDone)
	if len(all) != 24 {
		t.Fatal(all)
	}
	for _, state := range states {
		for _, o := range all {
			want := api.CClosed
			if state == api.CInit {
				want = api.CInit
			}
			if got := run(state, slices.Repeat(o, 4)...); got != want {
				t.Error(state, o, got)
			}
		}
	}
}

// So it is however the orders differ from one time to the next.
func TestClosedIsReachedByAnyOrders(t *testing.T) {
	all := orders(api.EClose, api.EAcked, api.EFin, api.EDone)
	for _, state := range states[1:] {
		for _, a := range all {
			for _, b := range all {
				for _, c := range all {
					if got := run(state, slices.Concat(a, b, c, a)...); got != api.CClosed {
						t.Fatal(state, a, b, c, got)
					}
				}
			}
		}
	}
}

// And however often one of them is told ahead of the next one: four times all of them, one behind the other or mixed.
func TestClosedIsReachedByRows(t *testing.T) {
	for seed := range 300 {
		d := dice(seed)
		for _, state := range states[1:] {
			at := state
			told, rounds := map[int]int{}, 0
			for step := 0; rounds < 4; step++ {
				if step == 10000 {
					t.Fatal("the dice don't tell all of them")
				}
				event := 1 + d.below(4)
				if told[event]++; len(told) == 4 {
					told = map[int]int{}
					rounds++
				}
				next, is := close.Step(at, event)
				if is == (next == at) || !close.Path(at, next) {
					t.Fatal(at, event, next, is)
				}
				at = next
			}
			if at != api.CClosed {
				t.Error(seed, state, at)
			}
		}
	}
}

func TestNothingLeadsOnFromClosed(t *testing.T) {
	for _, event := range slices.Concat(events, noEvent) {
		isNotMoved(t, api.CClosed, event)
	}
	for _, state := range slices.Concat(states, noState) {
		isPath(t, state == api.CClosed, api.CClosed, state)
	}
}

// No state is come to twice: behind each move there are fewer states that may be come to.
func TestNoWayGoesRound(t *testing.T) {
	for _, l := range ways(api.CInit) {
		for i, state := range l {
			if slices.Contains(l[i+1:], state) {
				t.Error(l)
			}
		}
	}
	for _, state := range states {
		for _, event := range events {
			if to, is := close.Step(state, event); is && (to == api.CInit || to == state) {
				t.Error(state, event, to)
			}
		}
	}
}
