package wheel_test

import (
	"math"
	"slices"
	"testing"

	"ferrybridge/api"
	"ferrybridge/wheel"
)

// P9.1, Advance

func TestAdvanceIsAsWritten(t *testing.T) {
	for _, c := range []struct{ start, tick, want int }{
		{500, 500, 500}, {500, 499, 500}, {500, 0, 500}, {500, -1, 500}, {500, math.MinInt, 500}, {0, -1, 0}, {0, 0, 0}, {0, math.MinInt, 0}, {latest, math.MinInt, latest},
		{0, 1, 1}, {500, 501, 501}, {500, 515, 515}, {500, 516, 516}, {500, 517, 517}, {500, 755, 755}, {500, 756, 756}, {500, 757, 757},
		{500, 4595, 4595}, {500, 4596, 4596}, {500, 4597, 4597}, {500, 10499, 10499}, {500, 10500, 10500}, {500, 10501, 10500}, {500, 30000, 10500},
		{0, 10000, 10000}, {0, 10001, 10000}, {0, latest, 10000}, {0, math.MaxInt, 10000}, {500, math.MaxInt - 1, 10500}, {500, math.MaxInt, 10500},
		{latest, latest + 1, latest + 1}, {latest, latest + 10000, latest + 10000}, {latest, latest + 10001, latest + 10000}, {latest, math.MaxInt, latest + 10000},
	} {
		w := wheel.New(c.start)
		told(t, w, c.tick, nil)
		if w.Now() != c.want {
			t.Errorf("at %d: Advance(%d): at %d, not %d", c.start, c.tick, w.Now(), c.want)
		}
	}
}

// By each length, with one timer at each edge: those up to the new tick are due, the others aren't.
func TestAdvanceByEachLength(t *testing.T) {
	for _, start := range starts {
		for _, by := range []int{math.MinInt, -latest, -1, 0, 1, 2, 15, 16, 17, 255, 256, 257, 4095, 4096, 4097, 9999, 10000, 10001, 20000, latest, math.MaxInt} {
			b := newBoth(t, start)
			for h, d := range edges {
				b.arm(len(edges)-h, start+d)
			}
			to := by
			if by <= latest {
				to = start + by
			}
			b.advance(to)
			b.look()
			if by > most && b.w.Now() != start+most {
				t.Errorf("at %d: Advance(%d): at %d", start, to, b.w.Now())
			}
			b.end()
		}
	}
}

// Time that doesn't go on leaves all as it was.
func TestAdvanceToWhatIsntBehind(t *testing.T) {
	for _, start := range starts {
		b := newBoth(t, start)
		b.arm(1, start+1)
		b.arm(2, start+16)
		b.arm(3, start+far)
		for _, tick := range []int{start, start - 1, start - 16, start - 10000, 0, -1, math.MinInt} {
			if tick <= start {
				b.advance(tick)
				b.look()
			}
		}
		b.end()
	}
}

func TestOrderIsAsWritten(t *testing.T) {
	w := wheel.New(100)
	for _, d := range dues(9, 130, 4, 101, math.MinInt, 4196, 0, 101, 7, 500, math.MaxInt, 101, -3, 500, 5, 4196, -1, 101, math.MinInt, 500) {
		if e := w.Arm(d.Handle, d.Tick); e != api.OK {
			t.Error(d, e)
		}
	}
	told(t, w, 600, dues(-1, 101, 0, 101, 4, 101, math.MaxInt, 101, 9, 130, math.MinInt, 500, -3, 500, 7, 500))
	told(t, w, 4195, nil)
	told(t, w, 4196, dues(5, 4196))
}

// In whatever order they are armed: by their ticks, and those of one tick by their handles.
func TestOrderOfAll(t *testing.T) {
	for _, start := range []int{0, 13, 250, 4095, latest - 1} {
		for turn := range 8 {
			b := newBoth(t, start)
			for i := range 600 {
				h := (i*(2*turn+1)*7919+turn)%601 - 300
				b.arm(h, start+1+(i*(turn+3)*31)%[]int{1, 3, 16, 40, 256, 700, 4096, 4096}[turn])
			}
			b.glance()
			b.end()
		}
	}
}

// P9.3

// One timer alone is due at just its tick, and isn't ahead of it, from wherever in the rings' turns, for whatever distance.
func TestOneAloneFromAnywhere(t *testing.T) {
	for start := 0; start < far; start += 5 {
		for _, d := range edges {
			w := wheel.New(start)
			w.Arm(start, start+d)
			if next, is := w.Next(); next != start+d || !is {
				t.Fatalf("at %d, for %d: Next: %d, %v", start, start+d, next, is)
			}
			if l := w.Advance(start + d - 1); len(l) != 0 || w.Len() != 1 {
				t.Fatalf("at %d, for %d: due a tick ahead: %v", start, start+d, l)
			}
			if next, is := w.Next(); next != start+d || !is {
				t.Fatalf("at %d, for %d: Next a tick ahead: %d, %v", start, start+d, next, is)
			}
			if l := w.Advance(start + d); len(l) != 1 || l[0] != (wheel.Due{Handle: start, Tick: start + d}) || w.Len() != 0 {
				t.Fatalf("at %d, for %d: %v", start, start+d, l)
			}
		}
	}
}

// lengths are those of the steps by which time goes on: always the same one, or one behind the other.
var lengths = [][]int{{1}, {2}, {7}, {15}, {16}, {17}, {100}, {255}, {256}, {257}, {4095}, {4096}, {10000}, {1, 300, 16, 3, 999}, {40, 1, 1, 215}}

// One timer for each distance, from wherever in the rings' turns: each is due at just its tick, once, by steps of any length.
func TestEachDistanceFromAnywhere(t *testing.T) {
	var some []int
	for i := 0; i < far; i += 13 {
		some = append(some, i)
	}
	for i, start := range append(some, starts...) {
		everyDistance(t, start, lengths[i%len(lengths)], i)
	}
	for i := range lengths {
		for _, start := range []int{0, 255, 4090} {
			everyDistance(t, start, lengths[i], i)
		}
	}
}

// everyDistance arms a timer for each distance, the turn-th way about, and lets time go on by those lengths.
func everyDistance(t *testing.T, start int, by []int, turn int) {
	t.Helper()
	w := wheel.New(start)
	for i := range far {
		// An odd number of steps comes to each distance once.
		d := 1 + (i*(2*turn+1))%far
		if e := w.Arm(d, start+d); e != api.OK {
			t.Fatalf("at %d: Arm for %d: %d", start, start+d, e)
		}
	}
	for i, told := 0, 0; told < far; i++ {
		to := w.Now() + by[i%len(by)]
		for _, d := range w.Advance(to) {
			told++
			if d != (wheel.Due{Handle: told, Tick: start + told}) || d.Tick > to {
				t.Fatalf("at %d, to %d by %d: %v, not %d", start, to, by, d, told)
			}
		}
		if w.Now() != to || told != min(far, to-start) || w.Len() != far-told {
			t.Fatalf("at %d, by %d: at %d, %d were due, %d are armed", start, by, w.Now(), told, w.Len())
		}
		if next, is := w.Next(); is != (told < far) || is && next != start+told+1 {
			t.Fatalf("at %d, by %d: at %d: Next: %d, %v", start, by, to, next, is)
		}
	}
	told(t, w, math.MaxInt, nil)
}

// Timers are armed while time goes on, so that those for one tick come from each ring.
func TestArmedFromEachRing(t *testing.T) {
	for _, tick := range []int{4096, 4097, 4352, 5000, 8191, 8192} {
		b := newBoth(t, tick-far)
		for i := len(edges) - 1; i >= 0; i-- {
			b.advance(tick - edges[i])
			b.arm(-i, tick)
			b.look()
		}
		b.advance(tick - 1)
		b.advance(tick)
		b.look()
		b.end()
	}
}

// Behind 2^40 time goes on as ahead of it.
func TestBeyondTheLatest(t *testing.T) {
	for _, start := range []int{latest - 4097, latest - 4096, latest - 257, latest - 16, latest - 1, latest} {
		b := newBoth(t, start)
		for turn := range 12 {
			for h, d := range edges {
				b.arm(h*(1-turn%2*2), b.p.now+d)
			}
			b.cancel(3, -4)
			b.advance(b.p.now + []int{1, 20, 300, 10000}[turn%4])
			b.look()
		}
		b.advance(math.MaxInt)
		b.end()
	}
}

// Nothing is due twice, and nothing that was cancelled: each arming that was neither cancelled nor armed anew comes once, at its tick.
func TestOnceEach(t *testing.T) {
	for seed := range 20 {
		d, w := dice(seed), wheel.New(seed*1000)
		open, came := map[int]int{}, 0
		for range 3000 {
			h := d.below(200)
			switch d.below(4) {
			case 0, 1:
				tick := w.Now() + 1 + d.below(1+d.below(far))
				w.Arm(h, tick)
				open[h] = tick
			case 2:
				w.Cancel(h)
				delete(open, h)
			default:
				for _, x := range w.Advance(w.Now() + d.below(1+d.below(400))) {
					if tick, is := open[x.Handle]; !is || tick != x.Tick || tick > w.Now() {
						t.Fatalf("%d: at %d: %v was due; armed for %d, %v", seed, w.Now(), x, tick, is)
					}
					delete(open, x.Handle)
					came++
				}
				for h, tick := range open {
					if tick <= w.Now() {
						t.Fatalf("%d: at %d: %d, for %d, wasn't due", seed, w.Now(), h, tick)
					}
				}
			}
		}
		if len(open) != w.Len() || came == 0 {
			t.Errorf("%d: %d are armed, not %d; %d were due", seed, w.Len(), len(open), came)
		}
	}
}

// All calls, one behind the other, at arguments of all sorts.
func TestAnything(t *testing.T) {
	for seed := range 60 {
		d := dice(1000 + seed)
		b := newBoth(t, starts[d.below(len(starts))]+d.below(300))
		for range 400 {
			anything(b, &d)
		}
		b.look()
		b.end()
	}
}

// anything is a call, whichever the dice tell.
func anything(b both, d *dice) {
	b.t.Helper()
	h := d.below(40) - 20
	if d.below(10) == 0 {
		h = handles[d.below(len(handles))]
	}
	now := b.p.now
	ticks := []int{now + edges[d.below(len(edges))], now + 1 + d.below(far), now + d.below(40), now + d.below(2*most), now - d.below(300), math.MinInt, math.MaxInt}
	switch d.below(12) {
	case 0:
		b.advance(now + d.below(20))
	case 1:
		b.advance(now + edges[d.below(len(edges))])
	case 2:
		if d.below(5) == 0 {
			b.advance(ticks[d.below(len(ticks))])
		}
	case 3:
		b.cancel(h)
	case 4:
		b.cancel(h, h+1, h, d.below(20))
	case 5:
		b.look()
	default:
		b.arm(h, ticks[d.below(3+d.below(5))])
		b.at(h)
	}
	b.glance()
}

// R1

// Each call ends, with very many timers too: armed, armed anew, cancelled, due.
func TestMany(t *testing.T) {
	const many = 200000
	w, all := wheel.New(200), make([]int, many)
	for h := range all {
		all[h] = h
		w.Arm(h, 201+h%far)
	}
	for h := range all {
		w.Arm(h, 300+h%2)
	}
	if next, is := w.Next(); next != 300 || !is || w.Len() != many {
		t.Error(next, is, w.Len())
	}
	if n := w.Cancel(all[:many/2]...); n != many/2 || w.Len() != many/2 {
		t.Error(n, w.Len())
	}
	l := w.Advance(math.MaxInt)
	if len(l) != many/2 || w.Len() != 0 {
		t.Fatal(len(l), w.Len())
	}
	for i, d := range l {
		h := many/2 + 2*i
		if i >= many/4 {
			h = many/2 + 2*(i-many/4) + 1
		}
		if d != (wheel.Due{Handle: h, Tick: 300 + h%2}) {
			t.Fatalf("the %d-th: %v", i, d)
		}
	}
	if !slices.IsSorted(all) {
		t.Error("what was handed in was changed")
	}
}
