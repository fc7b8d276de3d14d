package sched_test

import (
	"math"
	"slices"
	"testing"

	"ferrybridge/api"
	"ferrybridge/sched"
)

// edges are numbers of all sorts, in no order.
var edges = []int{0, 3, -1, 4, math.MaxInt, 1, math.MinInt, 2, 5, -2, 1 << 32, 1<<32 + 1, 1<<31 - 1, -1 << 31, -1 << 32, 3 - 1<<32, math.MaxInt - 1, math.MinInt + 1, 7, 8, 9, 100}

// dice are numbers of all sorts, always the same.
type dice uint64

func (d *dice) below(n int) int {
	*d = *d*6364136223846793005 + 1442695040888963407
	return int(uint64(*d)>>33) % n
}

// some is one of l.
func (d *dice) some(l []int) int { return l[d.below(len(l))] }

// paths are so many of all sorts: most of them are able, if there are no others.
func (d *dice) paths(many int) []api.Path {
	l := make([]api.Path, many)
	for i := range l {
		l[i] = api.Path{Ready: d.below(4) > 0, Backup: d.below(3) == 0, Smooth: d.below(4), Left: d.below(6)}
		if d.below(8) == 0 {
			l[i].Left = d.some(edges)
		}
		if d.below(8) == 0 {
			l[i].Smooth = d.some(edges)
		}
	}
	return l
}

// The plain way: each place is asked alone whether it is among those that are answered.

// able tells whether the place counts, and may send.
func able(l []api.Path, place int) bool {
	p := l[place]
	if !p.Ready || p.Left >= 4 {
		return false
	}
	if !p.Backup {
		return true
	}
	for _, other := range l {
		if other.Ready && !other.Backup {
			return false
		}
	}
	return true
}

// quicker tells whether place is to be picked rather than other by the smoothed times.
func quicker(l []api.Path, place, other int) bool {
	a, b := l[place].Smooth, l[other].Smooth
	return a < b || a == b && place < other
}

// sooner tells whether place is to be picked rather than other behind the place last.
func sooner(last, place, other int) bool {
	if place > last != (other > last) {
		return place > last
	}
	return place < other
}

// picked tells whether the place is picked: it is able, and none that is able too is to be picked rather than it.
func picked(how, last int, l []api.Path, place int) bool {
	if !able(l, place) || how < 0 || how > 2 {
		return false
	}
	for other := range l {
		if !able(l, other) {
			continue
		}
		if how == 0 && quicker(l, other, place) || how == 1 && sooner(last, other, place) {
			return false
		}
	}
	return true
}

// those are the places of l for which is holds.
func those(l []api.Path, is func(place int) bool) []int {
	var places []int
	for place := range l {
		if is(place) {
			places = append(places, place)
		}
	}
	return places
}

// both hold what is answered against the plain way.

func bothAble(t *testing.T, l []api.Path) {
	t.Helper()
	want := those(l, func(place int) bool { return able(l, place) })
	if got := sched.Able(l); !slices.Equal(got, want) {
		t.Errorf("Able(%v): %v, not %v", l, got, want)
	}
}

func bothPick(t *testing.T, how, last int, l []api.Path) {
	t.Helper()
	want := those(l, func(place int) bool { return picked(how, last, l, place) })
	if got := sched.Pick(how, last, l...); !slices.Equal(got, want) {
		t.Errorf("Pick(%d, %d, %v): %v, not %v", how, last, l, got, want)
	}
}

// all asks all ways to pick, and two that there are not, behind each place, behind none and behind all.
func all(t *testing.T, l []api.Path) {
	t.Helper()
	bothAble(t, l)
	for how := -1; how <= 3; how++ {
		for last := -2; last <= len(l)+1; last++ {
			bothPick(t, how, last, l)
		}
	}
}

// lists calls do with each list of so many of these.
func lists(many int, sorts []api.Path, do func(l []api.Path)) {
	l := make([]api.Path, many)
	var fill func(place int)
	fill = func(place int) {
		if place == many {
			do(l)
			return
		}
		for _, p := range sorts {
			l[place] = p
			fill(place + 1)
		}
	}
	fill(0)
}

// All lists of up to three paths of all sorts, and of four of which each tells the others apart.
func TestAllLists(t *testing.T) {
	var wide, narrow []api.Path
	for _, ready := range []bool{false, true} {
		for _, backup := range []bool{false, true} {
			for _, left := range []int{-1, 3, 4, 5} {
				for _, smooth := range []int{-1, 0, 1} {
					p := api.Path{Ready: ready, Backup: backup, Left: left, Smooth: smooth}
					wide = append(wide, p)
					if (left == 3 || left == 4) && smooth >= 0 && (ready || left == 3) {
						narrow = append(narrow, p)
					}
				}
			}
		}
	}
	for many := range 3 {
		lists(many, wide, func(l []api.Path) { all(t, l) })
	}
	for many := 3; many <= 4; many++ {
		lists(many, narrow, func(l []api.Path) { all(t, l) })
	}
}

func TestAllSorts(t *testing.T) {
	for seed := range 3000 {
		d := dice(seed)
		l := d.paths(d.below(12))
		all(t, l)
		for range 10 {
			bothPick(t, d.below(3), d.some(edges), l)
			bothPick(t, d.some(edges), d.below(9)-1, l)
		}
		if t.Failed() {
			t.Fatal(seed)
		}
	}
}

// There may be more paths than a connection has flows.
func TestManyPaths(t *testing.T) {
	for seed := range 20 {
		d := dice(seed)
		l := d.paths(100 + d.below(200))
		bothAble(t, l)
		for how := range 3 {
			for last := -1; last <= len(l); last += 1 + d.below(9) {
				bothPick(t, how, last, l)
			}
		}
	}
}
