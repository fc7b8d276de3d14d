package span_test

import (
	"math"
	"slices"
	"testing"

	"ferrybridge/span"
)

type run = span.Run

// holds holds the set against what is written.
func (b both) holds(many int, l ...run) {
	b.t.Helper()
	if got := b.x.Runs(); !slices.Equal(got, l) {
		b.t.Errorf("Runs: %v, not %v", got, l)
	}
	if got := b.x.Many(); got != many {
		b.t.Errorf("Many: %d, not %d", got, many)
	}
	b.look()
}

// added holds what Add answers against what is written.
func (b both) added(from, long, want int) {
	b.t.Helper()
	if got := b.x.Add(from, long); got != want {
		b.t.Errorf("Add(%d, %d): %d, not %d", from, long, got, want)
	}
	b.p.add(from, long)
	b.look()
}

// dropped holds what Drop answers against what is written.
func (b both) dropped(below, want int) {
	b.t.Helper()
	if got := b.x.Drop(below); got != want {
		b.t.Errorf("Drop(%d): %d, not %d", below, got, want)
	}
	b.p.drop(below)
	b.look()
}

// The chapter's example

func TestExample(t *testing.T) {
	b := small(t)
	b.added(3, 2, 2)
	b.added(0, 3, 3)
	b.holds(5, run{0, 5})
}

// P11.1, New

func TestNew(t *testing.T) {
	for _, c := range []struct{ given, want []run }{
		{nil, nil},
		{[]run{}, nil},
		{[]run{{5, 3}}, []run{{5, 3}}},
		{[]run{{0, 1}}, []run{{0, 1}}},
		// in any order
		{[]run{{1, 1}, {5, 3}, {10, 2}}, []run{{1, 1}, {5, 3}, {10, 2}}},
		{[]run{{10, 2}, {5, 3}, {1, 1}}, []run{{1, 1}, {5, 3}, {10, 2}}},
		{[]run{{5, 3}, {1, 1}, {10, 2}}, []run{{1, 1}, {5, 3}, {10, 2}}},
		{[]run{{5, 3}, {10, 2}, {1, 1}}, []run{{1, 1}, {5, 3}, {10, 2}}},
		// that overlap
		{[]run{{5, 3}, {6, 4}}, []run{{5, 5}}},
		{[]run{{6, 4}, {5, 3}}, []run{{5, 5}}},
		{[]run{{1, 3}, {8, 3}, {2, 8}}, []run{{1, 10}}},
		{[]run{{2, 8}, {8, 3}, {1, 3}}, []run{{1, 10}}},
		// that touch
		{[]run{{5, 3}, {8, 2}}, []run{{5, 5}}},
		{[]run{{8, 2}, {5, 3}}, []run{{5, 5}}},
		{[]run{{1, 1}, {3, 1}, {2, 1}}, []run{{1, 3}}},
		{[]run{{1, 1}, {3, 1}, {5, 1}}, []run{{1, 1}, {3, 1}, {5, 1}}},
		// of which one holds the other
		{[]run{{1, 20}, {5, 3}}, []run{{1, 20}}},
		{[]run{{5, 3}, {1, 20}}, []run{{1, 20}}},
		{[]run{{1, 20}, {1, 3}}, []run{{1, 20}}},
		{[]run{{1, 3}, {1, 20}}, []run{{1, 20}}},
		{[]run{{1, 20}, {18, 3}}, []run{{1, 20}}},
		{[]run{{18, 3}, {1, 20}}, []run{{1, 20}}},
		{[]run{{1, 2}, {5, 2}, {9, 2}, {0, 30}}, []run{{0, 30}}},
		{[]run{{0, 30}, {9, 2}, {5, 2}, {1, 2}}, []run{{0, 30}}},
		// the same
		{[]run{{5, 3}, {5, 3}}, []run{{5, 3}}},
		{[]run{{5, 3}, {1, 1}, {5, 3}, {1, 1}, {5, 3}}, []run{{1, 1}, {5, 3}}},
		// empty
		{[]run{{5, 0}}, nil},
		{[]run{{}}, nil},
		{[]run{{}, {}, {}}, nil},
		{[]run{{5, -3}}, nil},
		{[]run{{5, 2}, {7, 0}, {9, 2}}, []run{{5, 2}, {9, 2}}},
		{[]run{{5, 2}, {9, 2}, {8, -1}}, []run{{5, 2}, {9, 2}}},
		{[]run{{5, math.MinInt}, {-5, math.MinInt}, {math.MinInt, math.MinInt}, {math.MaxInt, math.MinInt}}, nil},
		// that begin or end where no set goes
		{[]run{{-5, 7}}, []run{{0, 2}}},
		{[]run{{-5, 5}}, nil},
		{[]run{{4, 1}, {-5, 8}, {-9, 3}}, []run{{0, 3}, {4, 1}}},
		{[]run{{math.MinInt, math.MaxInt}, {math.MaxInt, math.MaxInt}, {top, 1}}, nil},
		{[]run{{top - 2, 9}, {-1, 2}}, []run{{0, 1}, {top - 2, 2}}},
		{[]run{{top - 1, math.MaxInt}, {0, top - 2}}, []run{{0, top - 2}, {top - 1, 1}}},
		{[]run{{top - 1, math.MaxInt}, {0, top - 1}}, []run{{0, top}}},
		{[]run{{-1, math.MaxInt}}, []run{{0, top}}},
	} {
		many := 0
		for _, r := range c.want {
			many += r.Long
		}
		great(t, c.given...).holds(many, c.want...)
	}
}

// What New answers is what Add makes of its runs, one behind the other, in each order.
func TestNewIsAsAdd(t *testing.T) {
	d := dice(3)
	for range 2000 {
		l := make([]run, d.below(9))
		for i := range l {
			l[i] = run{d.below(40) - 5, d.below(9) - 1}
		}
		b := small(t)
		for _, r := range l {
			b.add(r.From, r.Long)
		}
		for range 3 {
			if got, want := span.New(l...).Runs(), b.x.Runs(); !slices.Equal(got, want) {
				t.Errorf("New(%v): %v, not %v", l, got, want)
			}
			for i := range l {
				j := d.below(i + 1)
				l[i], l[j] = l[j], l[i]
			}
		}
		b.look()
	}
}

// P11.1, Add

// Of three runs: what Add answers, and what there is behind it.
func TestAdd(t *testing.T) {
	three := []run{{10, 5}, {20, 5}, {30, 5}}
	for _, c := range []struct {
		what             string
		from, long, want int
		l                []run
	}{
		{"ahead of all", 2, 3, 3, []run{{2, 3}, {10, 5}, {20, 5}, {30, 5}}},
		{"from 0", 0, 1, 1, []run{{0, 1}, {10, 5}, {20, 5}, {30, 5}}},
		{"ahead of all, one between", 5, 4, 4, []run{{5, 4}, {10, 5}, {20, 5}, {30, 5}}},
		{"behind all", 40, 3, 3, []run{{10, 5}, {20, 5}, {30, 5}, {40, 3}}},
		{"behind all, one between", 36, 3, 3, []run{{10, 5}, {20, 5}, {30, 5}, {36, 3}}},
		{"between the first two", 16, 3, 3, []run{{10, 5}, {16, 3}, {20, 5}, {30, 5}}},
		{"between the last two", 27, 1, 1, []run{{10, 5}, {20, 5}, {27, 1}, {30, 5}}},
		{"touching the first one, from ahead", 6, 4, 4, []run{{6, 9}, {20, 5}, {30, 5}}},
		{"touching the last one, from behind", 35, 2, 2, []run{{10, 5}, {20, 5}, {30, 7}}},
		{"touching the one ahead", 15, 2, 2, []run{{10, 7}, {20, 5}, {30, 5}}},
		{"touching the one ahead, one between", 15, 4, 4, []run{{10, 9}, {20, 5}, {30, 5}}},
		{"touching the one behind", 18, 2, 2, []run{{10, 5}, {18, 7}, {30, 5}}},
		{"touching the one behind, one between", 16, 4, 4, []run{{10, 5}, {16, 9}, {30, 5}}},
		{"touching both", 15, 5, 5, []run{{10, 15}, {30, 5}}},
		{"touching both, the last two", 25, 5, 5, []run{{10, 5}, {20, 15}}},
		{"overlapping one's beginning", 18, 4, 2, []run{{10, 5}, {18, 7}, {30, 5}}},
		{"overlapping one's first number", 8, 3, 2, []run{{8, 7}, {20, 5}, {30, 5}}},
		{"overlapping one's end", 23, 4, 2, []run{{10, 5}, {20, 7}, {30, 5}}},
		{"overlapping one's last number", 34, 4, 3, []run{{10, 5}, {20, 5}, {30, 8}}},
		{"overlapping two", 12, 10, 5, []run{{10, 15}, {30, 5}}},
		{"overlapping the last number of one, and the first of the next", 24, 7, 5, []run{{10, 5}, {20, 15}}},
		{"overlapping one, touching the next", 12, 8, 5, []run{{10, 15}, {30, 5}}},
		{"touching one, overlapping the next", 15, 6, 5, []run{{10, 15}, {30, 5}}},
		{"overlapping all", 14, 17, 10, []run{{10, 25}}},
		{"from the first one's beginning to the last one's end", 10, 25, 10, []run{{10, 25}}},
		{"holding all", 0, 50, 35, []run{{0, 50}}},
		{"holding all, one more at each end", 9, 27, 12, []run{{9, 27}}},
		{"holding one", 18, 9, 4, []run{{10, 5}, {18, 9}, {30, 5}}},
		{"holding two", 8, 20, 10, []run{{8, 20}, {30, 5}}},
		{"holding the last two", 18, 20, 10, []run{{10, 5}, {18, 20}}},
		{"touching the first one, holding the rest", 15, 30, 20, []run{{10, 35}}},
		{"within one", 21, 3, 0, three},
		{"within one, from its beginning", 20, 3, 0, three},
		{"within one, to its end", 22, 3, 0, three},
		{"one's first number", 30, 1, 0, three},
		{"one's last number", 14, 1, 0, three},
		{"the first one itself", 10, 5, 0, three},
		{"the second one itself", 20, 5, 0, three},
		{"the last one itself", 30, 5, 0, three},
		{"one itself, and one more ahead", 19, 6, 1, []run{{10, 5}, {19, 6}, {30, 5}}},
		{"one itself, and one more behind", 20, 6, 1, []run{{10, 5}, {20, 6}, {30, 5}}},
		{"nothing", 17, 0, 0, three},
		{"nothing, touching one", 15, 0, 0, three},
		{"nothing, within one", 22, 0, 0, three},
		{"less than nothing", 17, -1, 0, three},
		{"less than nothing, back over one", 26, -20, 0, three},
		{"the least long", 22, math.MinInt, 0, three},
		{"the least long but one", 22, math.MinInt + 1, 0, three},
		{"the least long, below 0", -22, math.MinInt, 0, three},
		{"the greatest long", 22, math.MaxInt, top - 30, []run{{10, 5}, {20, top - 20}}},
		{"the greatest long, from 0", 0, math.MaxInt, top - 15, []run{{0, top}}},
		{"the greatest long, from behind all", 36, math.MaxInt, top - 36, []run{{10, 5}, {20, 5}, {30, 5}, {36, top - 36}}},
		{"below 0 only", -5, 3, 0, three},
		{"below 0 only, up to -1", -5, 5, 0, three},
		{"-1 only", -1, 1, 0, three},
		{"from below 0 to 0", -5, 6, 1, []run{{0, 1}, {10, 5}, {20, 5}, {30, 5}}},
		{"-1 and 0", -1, 2, 1, []run{{0, 1}, {10, 5}, {20, 5}, {30, 5}}},
		{"from below 0 till it touches", -5, 15, 10, []run{{0, 15}, {20, 5}, {30, 5}}},
		{"from below 0 into one", -5, 18, 10, []run{{0, 15}, {20, 5}, {30, 5}}},
		{"from below 0 over all", -5, 100, 80, []run{{0, 95}}},
		{"from below 0, the greatest long", -5, math.MaxInt, top - 15, []run{{0, top}}},
		{"from the least int", math.MinInt, 3, 0, three},
		{"from the least int, the greatest long", math.MinInt, math.MaxInt, 0, three},
		{"from the least int but one, the greatest long", math.MinInt + 1, math.MaxInt, 0, three},
		{"from the least int but two, the greatest long", math.MinInt + 2, math.MaxInt, 1, []run{{0, 1}, {10, 5}, {20, 5}, {30, 5}}},
		{"from the least int, the least long", math.MinInt, math.MinInt, 0, three},
		{"from the least int, 0 long", math.MinInt, 0, 0, three},
		{"from the least int, -1 long", math.MinInt, -1, 0, three},
		{"the greatest number", top - 1, 1, 1, []run{{10, 5}, {20, 5}, {30, 5}, {top - 1, 1}}},
		{"the greatest number, and more", top - 1, 9, 1, []run{{10, 5}, {20, 5}, {30, 5}, {top - 1, 1}}},
		{"the greatest number, and the greatest long", top - 1, math.MaxInt, 1, []run{{10, 5}, {20, 5}, {30, 5}, {top - 1, 1}}},
		{"the greatest two", top - 2, 2, 2, []run{{10, 5}, {20, 5}, {30, 5}, {top - 2, 2}}},
		{"the greatest but one", top - 2, 1, 1, []run{{10, 5}, {20, 5}, {30, 5}, {top - 2, 1}}},
		{"the greatest two, and more", top - 2, 3, 2, []run{{10, 5}, {20, 5}, {30, 5}, {top - 2, 2}}},
		{"behind the greatest number", top, 1, 0, three},
		{"behind the greatest number, the greatest long", top, math.MaxInt, 0, three},
		{"behind the greatest number, less than nothing", top, -top, 0, three},
		{"far behind the greatest number", 3 * top, top, 0, three},
		{"what is 20 but for 2^32", top + 20, 20, 0, three},
		{"from the greatest int", math.MaxInt, 1, 0, three},
		{"from the greatest int, the greatest long", math.MaxInt, math.MaxInt, 0, three},
		{"from the greatest int, the least long", math.MaxInt, math.MinInt, 0, three},
		{"from the greatest int, -1 long", math.MaxInt, -1, 0, three},
		{"from the greatest int but one", math.MaxInt - 1, 2, 0, three},
	} {
		for _, order := range [][]int{{0, 1, 2}, {2, 1, 0}, {1, 2, 0}} {
			b := great(t)
			for _, i := range order {
				b.add(three[i].From, three[i].Long)
			}
			b.holds(15, three...)
			b.added(c.from, c.long, c.want)
			b.holds(15+c.want, c.l...)
			b.added(c.from, c.long, 0)
			b.holds(15+c.want, c.l...)
			if t.Failed() {
				t.Fatal(c.what)
			}
		}
	}
}

// Each run, of small numbers, is added to each of some sets.
func TestAddEach(t *testing.T) {
	for _, l := range [][]run{nil, {{0, 1}}, {{0, 4}}, {{5, 1}}, {{3, 4}}, {{0, 2}, {4, 3}}, {{1, 1}, {3, 1}, {5, 1}, {7, 1}}, {{2, 3}, {7, 2}, {12, 1}}} {
		for from := -4; from < 17; from++ {
			for long := -2; long < 21; long++ {
				b := small(t, l...)
				b.add(from, long)
				b.look()
			}
		}
	}
}

// Likewise where the greatest numbers are.
func TestAddEachAtTheTop(t *testing.T) {
	for _, l := range [][]run{nil, {{top - 1, 1}}, {{top - 4, 4}}, {{top - 4, 2}}, {{top - 5, 1}, {top - 3, 1}, {top - 1, 1}}} {
		for from := top - 8; from < top+3; from++ {
			for long := -1; long < 11; long++ {
				b := small(t, l...)
				b.add(from, long)
				b.look()
			}
		}
	}
}

// All numbers of all sorts, as from and as long, in any order, at sets of each kind.
func TestAddExtremes(t *testing.T) {
	for _, l := range [][]run{nil, {{0, 1}}, {{top - 1, 1}}, {{0, top}}, {{1, top - 2}}, {{5, 5}, {1 << 31, 7}, {top - 9, 3}}} {
		for _, from := range edges {
			b := great(t, l...)
			for _, long := range edges {
				one := great(t, l...)
				one.add(from, long)
				one.look()
				b.add(from, long)
				b.look()
			}
		}
	}
}

// P11.1, Drop

func TestDrop(t *testing.T) {
	three := []run{{10, 5}, {20, 5}, {30, 5}}
	for _, c := range []struct {
		below, want int
		l           []run
	}{
		{math.MinInt, 0, three}, {math.MinInt + 1, 0, three}, {-top, 0, three}, {-20, 0, three}, {-1, 0, three}, {0, 0, three}, {1, 0, three}, {9, 0, three},
		{10, 0, three},
		{11, 1, []run{{11, 4}, {20, 5}, {30, 5}}},
		{13, 3, []run{{13, 2}, {20, 5}, {30, 5}}},
		{14, 4, []run{{14, 1}, {20, 5}, {30, 5}}},
		{15, 5, []run{{20, 5}, {30, 5}}},
		{16, 5, []run{{20, 5}, {30, 5}}},
		{19, 5, []run{{20, 5}, {30, 5}}},
		{20, 5, []run{{20, 5}, {30, 5}}},
		{21, 6, []run{{21, 4}, {30, 5}}},
		{24, 9, []run{{24, 1}, {30, 5}}},
		{25, 10, []run{{30, 5}}},
		{29, 10, []run{{30, 5}}},
		{30, 10, []run{{30, 5}}},
		{32, 12, []run{{32, 3}}},
		{34, 14, []run{{34, 1}}},
		{35, 15, nil}, {36, 15, nil}, {100, 15, nil}, {top - 1, 15, nil}, {top, 15, nil}, {top + 1, 15, nil}, {top + 10, 15, nil}, {math.MaxInt - 1, 15, nil}, {math.MaxInt, 15, nil},
	} {
		b := small(t, three...)
		b.dropped(c.below, c.want)
		b.holds(15-c.want, c.l...)
		b.dropped(c.below, 0)
		b.holds(15-c.want, c.l...)
	}
}

func TestDropAtTheEnds(t *testing.T) {
	b := great(t, run{0, top})
	b.dropped(0, 0)
	b.dropped(-1, 0)
	b.holds(top, run{0, top})
	b.dropped(1, 1)
	b.holds(top-1, run{1, top - 1})
	b.dropped(1<<31, 1<<31-1)
	b.holds(1<<31, run{1 << 31, 1 << 31})
	b.dropped(top-1, 1<<31-1)
	b.holds(1, run{top - 1, 1})
	b.dropped(top, 1)
	b.holds(0)
	b.dropped(top, 0)
	for _, below := range edges {
		b.dropped(below, 0)
	}
	for _, below := range []int{top, top + 1, 1 << 40, math.MaxInt} {
		great(t, run{0, top}).dropped(below, top)
		great(t, run{0, 1}, run{top - 1, 1}).dropped(below, 2)
	}
}

// What was dropped may be added again.
func TestAddBehindDrop(t *testing.T) {
	b := small(t, run{10, 5}, run{20, 5})
	b.dropped(12, 2)
	b.added(12, 3, 0)
	b.added(11, 2, 1)
	b.holds(9, run{11, 4}, run{20, 5})
	b.dropped(22, 6)
	b.added(0, 5, 5)
	b.added(5, 20, 17)
	b.holds(25, run{0, 25})
	b.dropped(25, 25)
	b.holds(0)
	b.added(25, 1, 1)
	b.added(24, 1, 1)
	b.holds(2, run{24, 2})
}

// A window over numbers that rise: they are added in any order about it, and those ahead of it dropped.
func TestWindow(t *testing.T) {
	d, b := dice(5), small(t)
	for at := 0; at < 3000; at += d.below(5) {
		for range 3 {
			b.add(at+d.below(60)-5, d.below(6))
		}
		b.drop(at)
		b.look()
	}
}

// R1: many runs end soon, whichever way they come.
func TestManyRuns(t *testing.T) {
	const many = 100000
	l := make([]run, many)
	for i := range l {
		l[i] = run{3 * i, 2}
	}
	falling := slices.Clone(l)
	slices.Reverse(falling)
	up, down, each := span.New(l...), span.New(falling...), span.New()
	for i, r := range l {
		if each.Add(r.From, r.Long) != 2 || each.Next(r.From) != 3*i+2 {
			t.Fatal(r)
		}
	}
	for _, s := range []*span.Set{up, down, each} {
		if !slices.Equal(s.Runs(), l) || s.Many() != 2*many {
			t.Error(s.Many())
		}
		for i := range l {
			if s.Has(3*i+2) || !s.Has(3*i+1) || s.Next(3*i+1) != 3*i+2 {
				t.Fatal(i)
			}
			if n := s.Drop(3*i + 1); n != min(i, 1)+1 {
				t.Fatal(i, n)
			}
		}
		if s.Many() != 1 {
			t.Error(s.Many())
		}
	}
	if n := up.Add(0, 3*many-2); n != 3*many-2 || !slices.Equal(up.Runs(), []run{{0, 3*many - 1}}) {
		t.Error(n, up.Runs())
	}
}
