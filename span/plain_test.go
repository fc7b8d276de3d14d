package span_test

import (
	"cmp"
	"math"
	"math/big"
	"slices"
	"testing"

	"ferrybridge/span"
)

// top is behind the greatest number of a set.
const top = 1 << 32

// edges are numbers of all sorts, in no order.
var edges = []int{
	0, math.MaxInt, -1, top, 1, math.MinInt, top - 1, 2, -2, top + 1, math.MaxInt - 1, math.MinInt + 1, top - 2, -3, 3,
	1 << 31, 1<<31 - 1, 1<<31 + 1, -top, -top - 1, -top + 1, 2 * top, 1 << 62, -1 << 62, math.MaxInt - top, math.MaxInt - top + 1, math.MinInt + top, 7, -7, 100, -100,
}

// dice are numbers of all sorts, always the same.
type dice uint64

func (d *dice) below(n int) int {
	*d = *d*6364136223846793005 + 1442695040888963407
	return int(uint64(*d)>>33) % n
}

// model is a set in a plain way.
type model interface {
	add(from, long int) int
	drop(below int) int
	has(n int) bool
	next(from int) int
	runs() []span.Run
	many() int
}

// single is a set number by number: for runs that aren't long.
type single map[int]bool

func (p single) add(from, long int) int {
	fresh := 0
	for i := 0; i < long; i++ {
		if n := from + i; n >= 0 && n < top && !p[n] {
			p[n] = true
			fresh++
		}
	}
	return fresh
}

func (p single) drop(below int) int {
	gone := 0
	for n := range p {
		if n < below {
			delete(p, n)
			gone++
		}
	}
	return gone
}

func (p single) has(n int) bool { return p[n] }

func (p single) next(from int) int {
	n := max(from, 0)
	for p[n] {
		n++
	}
	return n
}

func (p single) runs() []span.Run {
	var numbers []int
	for n := range p {
		numbers = append(numbers, n)
	}
	slices.Sort(numbers)
	var l []span.Run
	for i, n := range numbers {
		if i > 0 && numbers[i-1] == n-1 {
			l[len(l)-1].Long++
		} else {
			l = append(l, span.Run{From: n, Long: 1})
		}
	}
	return l
}

func (p single) many() int { return len(p) }

// pieces is a set run by run: pieces from one number on to another one, which have none in common, in no order.
type pieces struct{ l [][2]int }

func (p *pieces) add(from, long int) int {
	begin, end := big.NewInt(int64(from)), new(big.Int)
	end.Add(begin, big.NewInt(int64(long)))
	least, most := big.NewInt(0), big.NewInt(top)
	if begin.Cmp(least) < 0 {
		begin = least
	}
	if end.Cmp(most) > 0 {
		end = most
	}
	if begin.Cmp(end) >= 0 {
		return 0
	}
	left := [][2]int{{int(begin.Int64()), int(end.Int64())}}
	for _, was := range p.l {
		left = without(left, was)
	}
	p.l = append(p.l, left...)
	return total(left)
}

// without is what is in l and not in was.
func without(l [][2]int, was [2]int) [][2]int {
	var left [][2]int
	for _, x := range l {
		for _, part := range [][2]int{{x[0], min(x[1], was[0])}, {max(x[0], was[1]), x[1]}} {
			if part[0] < part[1] {
				left = append(left, part)
			}
		}
	}
	return left
}

func total(l [][2]int) int {
	n := 0
	for _, x := range l {
		n += x[1] - x[0]
	}
	return n
}

func (p *pieces) drop(below int) int {
	was := total(p.l)
	p.l = without(p.l, [2]int{math.MinInt, below})
	return was - total(p.l)
}

func (p *pieces) has(n int) bool {
	return slices.ContainsFunc(p.l, func(x [2]int) bool { return x[0] <= n && n < x[1] })
}

func (p *pieces) next(from int) int {
	n := max(from, 0)
	for again := true; again; {
		again = false
		for _, x := range p.l {
			if x[0] <= n && n < x[1] {
				n, again = x[1], true
			}
		}
	}
	return n
}

func (p *pieces) runs() []span.Run {
	rising := slices.Clone(p.l)
	slices.SortFunc(rising, func(a, b [2]int) int { return cmp.Compare(a[0], b[0]) })
	var l []span.Run
	for i, x := range rising {
		if i > 0 && rising[i-1][1] == x[0] {
			l[len(l)-1].Long += x[1] - x[0]
		} else {
			l = append(l, span.Run{From: x[0], Long: x[1] - x[0]})
		}
	}
	return l
}

func (p *pieces) many() int { return total(p.l) }

// both is a set, and the same in a plain way: each call is asked of both.
type both struct {
	t *testing.T
	x *span.Set
	p model
}

// small is for runs that aren't long, great for any.
func small(t *testing.T, l ...span.Run) both {
	t.Helper()
	return newBoth(t, single{}, l)
}

func great(t *testing.T, l ...span.Run) both {
	t.Helper()
	return newBoth(t, &pieces{}, l)
}

func newBoth(t *testing.T, p model, l []span.Run) both {
	t.Helper()
	for _, r := range l {
		p.add(r.From, r.Long)
	}
	b := both{t, span.New(l...), p}
	b.look()
	return b
}

func (b both) add(from, long int) {
	b.t.Helper()
	if got, want := b.x.Add(from, long), b.p.add(from, long); got != want {
		b.t.Errorf("Add(%d, %d): %d, not %d", from, long, got, want)
	}
}

func (b both) drop(below int) {
	b.t.Helper()
	if got, want := b.x.Drop(below), b.p.drop(below); got != want {
		b.t.Errorf("Drop(%d): %d, not %d", below, got, want)
	}
}

func (b both) ask(n int) {
	b.t.Helper()
	if got, want := b.x.Has(n), b.p.has(n); got != want {
		b.t.Errorf("Has(%d): %v, not %v, of %v", n, got, want, b.p.runs())
	}
	if got, want := b.x.Next(n), b.p.next(n); got != want {
		b.t.Errorf("Next(%d): %d, not %d, of %v", n, got, want, b.p.runs())
	}
}

// look asks all that tells, and changes nothing: about both ends of each run, and of numbers of all sorts.
func (b both) look() {
	b.t.Helper()
	l, want := b.x.Runs(), b.p.runs()
	if !slices.Equal(l, want) {
		b.t.Errorf("Runs: %v, not %v", l, want)
	}
	if got, many := b.x.Many(), b.p.many(); got != many {
		b.t.Errorf("Many: %d, not %d", got, many)
	}
	rising(b.t, l)
	for _, r := range want {
		for _, n := range []int{r.From - 2, r.From - 1, r.From, r.From + 1, r.From + r.Long/2} {
			b.ask(n)
			b.ask(n + r.Long)
		}
	}
	for _, n := range edges {
		b.ask(n)
	}
}

// rising holds of runs, whatever is in them: none is empty, none touches the next one, all are within what a set may have.
func rising(t *testing.T, l []span.Run) {
	t.Helper()
	behind := -1
	for _, r := range l {
		if r.Long < 1 || r.From <= behind || r.From >= top || r.Long > top-r.From {
			t.Errorf("Runs: %v in %v", r, l)
			return
		}
		behind = r.From + r.Long
	}
}
