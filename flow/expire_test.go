package flow_test

import (
	"math"
	"strconv"
	"strings"
	"testing"

	"ferrybridge/api"
	"ferrybridge/flow"
)

func num(n int) string { return strconv.Itoa(n) }

// P14.2, Expire and At

// Ahead of the deadline, and without one, nothing is done, in any state.
func TestExpireAheadOfTheDeadline(t *testing.T) {
	anywhere(func(x, y uint32) {
		for state := api.FSynSent; state <= api.FDead; state++ {
			f := bring(state, x, y)
			stood, left := f.stands(), f.pieces(f.Left())
			ticks := []int{11, 12, 100, 1 << 40, math.MaxInt}
			if at, has := f.At(); has {
				// Also ahead of the tick from which it is counted.
				ticks = []int{0, 11, at - 1}
			}
			for _, tick := range ticks {
				f.is(t, "Expire in "+states[state], f.Expire(tick), "; ; "+stood+"; "+left)
			}
		}
	})
}

// At the deadline, or behind it.
func TestExpireInEachState(t *testing.T) {
	anywhere(func(x, y uint32) {
		for _, late := range []int{0, 1, 50} {
			for _, row := range []struct {
				state, at, wait int
				want            string
			}{
				{api.FSynSent, 14, 8, "S@0; synsent ?; S@0"},
				{api.FSynRcvd, 14, 8, "S@0 a1; synrcvd ?; S@0"},
				{api.FFin1, 13, 6, "F@1 a1; fin1 ?; F@1"},
				{api.FClosing, 13, 6, "F@1 a2; closing ?; F@1"},
				{api.FLastAck, 13, 6, "F@1 a2; lastack ?; F@1"},
				{api.FTimeWait, 19, 0, "; done -; none"},
			} {
				f := bring(row.state, x, y)
				tick := row.at + late
				want := strings.ReplaceAll(row.want, "?", num(tick+row.wait))
				f.is(t, "Expire in "+states[row.state], f.Expire(tick), "; "+want)
			}
		}
	})
}

// All pieces are told again, in order, with what came by then.
func TestExpireTellsAllAgain(t *testing.T) {
	anywhere(func(x, y uint32) {
		f := several(x, y)
		f.hears("xy @1 A4", 12)
		f.Out()
		f.is(t, "Expire at 14", f.Expire(14), "; ; open 15; d#4@4 ef#5!@5")
		f.is(t, "Expire at 15", f.Expire(15), "; d#4@4 a3, ef#5!@5 a3; open 21; d#4@4 ef#5!@5")
		f.Close(16)
		f.is(t, "Expire at 21", f.Expire(21), "; F@7 a3, d#4@4 a3, ef#5!@5 a3, F@7 a3; fin1 33; d#4@4 ef#5!@5 F@7")
	})
}

// A flow is dead behind as many waits as it tries, and once.
func TestExpireTillDead(t *testing.T) {
	anywhere(func(x, y uint32) {
		for _, c := range []struct {
			state, from int
			waits       []int
			left        string
		}{
			{api.FSynSent, 10, []int{4, 8, 16, 16, 16}, "S@0"},
			{api.FSynRcvd, 10, []int{4, 8, 16, 16, 16}, "S@0"},
			{api.FFin1, 10, []int{3, 6, 12, 16, 16}, "F@1"},
			{api.FClosing, 10, []int{3, 6, 12, 16, 16}, "F@1"},
			{api.FLastAck, 10, []int{3, 6, 12, 16, 16}, "F@1"},
		} {
			f := bring(c.state, x, y)
			at, tries := c.from, 0
			for tick := c.from + 1; tick < c.from+100; tick++ {
				due := tick == at+c.waits[min(tries, 4)] && tries < 5
				h := f.Expire(tick)
				switch many := len(f.Out()); {
				case !due && (many != 0 || h.Dead):
					t.Errorf("%s: at %d: %d, %v", states[c.state], tick, many, h)
				case due && tries < 4 && (many != 1 || h.Dead || f.State() != c.state):
					t.Errorf("%s: at %d: %d, %v", states[c.state], tick, many, h)
				case due && tries == 4:
					f.is(t, "dead", h, "dead; ; dead -; "+c.left)
				}
				if due {
					at, tries = tick, tries+1
				}
			}
			f.is(t, "at last", api.Heard{}, "; ; dead -; "+c.left)
		}
	})
}

// The deadline is counted from when it was done, not from when it was due.
func TestExpireLate(t *testing.T) {
	f := place{flow.Dial(1, 0), 1, 1}
	f.Out()
	for _, c := range []struct {
		tick int
		want string
	}{
		{100, "; S@0; synsent 108; S@0"}, {107, "; ; synsent 108; S@0"}, {1000, "; S@0; synsent 1016; S@0"},
		{5000, "; S@0; synsent 5016; S@0"}, {5016, "; S@0; synsent 5032; S@0"}, {5031, "; ; synsent 5032; S@0"}, {9000, "dead; ; dead -; S@0"}, {9999, "; ; dead -; S@0"},
	} {
		f.is(t, "Expire at "+num(c.tick), f.Expire(c.tick), c.want)
	}
}

// Pieces that go make the tries 0, and the estimate fresh; other hearing doesn't.
func TestTriesBeginAnew(t *testing.T) {
	anywhere(func(x, y uint32) {
		f := several(x, y)
		for _, tick := range []int{14, 20, 32, 48} {
			f.Expire(tick)
			f.hears("xy @1 A1", tick)
			f.hears("@1 A9", tick)
			f.hears("S @0 A1", tick)
		}
		f.Out()
		f.is(t, "A4", f.hears("@3 A4", 60), "fresh -abc#1@1; ; open 63; d#4@4 ef#5!@5")
		at := 63
		for _, wait := range []int{6, 12, 16, 16} {
			if h := f.Expire(at); h.Dead {
				t.Error(at)
			}
			at += wait
			if got := f.stands(); got != "open "+num(at) {
				t.Error(got, at)
			}
		}
		f.Out()
		f.is(t, "dead", f.Expire(at), "dead; ; dead -; d#4@4 ef#5!@5")
	})
}

// A Syn that comes once more lets all be sent again, but isn't a try, and doubles nothing.
func TestSynAgainIsNoTry(t *testing.T) {
	f := place{flow.Answer(3, api.Segment{Seq: 8, Syn: true}, 0), 3, 8}
	f.Out()
	for tick := 1; tick < 20; tick++ {
		f.is(t, "Syn", f.hears("S @0", tick), "; S@0 a1; synrcvd "+num(tick+4)+"; S@0")
	}
	f.is(t, "Expire", f.Expire(23), "; S@0 a1; synrcvd 31; S@0")
	f.is(t, "Syn", f.hears("S @0", 24), "; S@0 a1; synrcvd 32; S@0")
	f.is(t, "Expire", f.Expire(32), "; S@0 a1; synrcvd 48; S@0")
	f.is(t, "Expire", f.Expire(48), "; S@0 a1; synrcvd 64; S@0")
	f.is(t, "Expire", f.Expire(64), "; S@0 a1; synrcvd 80; S@0")
	f.is(t, "Expire", f.Expire(80), "dead; ; dead -; S@0")
}

// P14.1, the first ones' time

// smooth holds the smoothed time, and with it which sample was taken.
func (f place) smooth(t *testing.T, what string, want int) {
	t.Helper()
	if got := f.Smooth(); got != want {
		t.Errorf("%s: Smooth: %d, not %d", what, got, want)
	}
}

func TestSampleOfASyn(t *testing.T) {
	for n := range 12 {
		f := place{flow.Dial(1, 100), 1, 1}
		f.hears("S @0 A1", 100+n)
		f.smooth(t, "Dial", 8*n)
		f = place{flow.Answer(1, f.seg("S @0"), 100), 1, 1}
		f.hears("@1 A1", 100+n)
		f.smooth(t, "Answer", 8*n)
	}
}

// What was sent twice is no sample, whichever way it came to that.
func TestNoSampleOfWhatWasSentTwice(t *testing.T) {
	f := place{flow.Dial(1, 0), 1, 1}
	f.Expire(4)
	f.hears("S @0 A1", 5)
	f.smooth(t, "Expire", 32)
	f.Send([]byte("a"), 1, false, 6)
	f.hears("@1 A2", 9)
	f.smooth(t, "the next one", 24)

	f = place{flow.Answer(1, f.seg("S @0"), 0), 1, 1}
	f.hears("S @0", 1)
	f.hears("@1 A1", 2)
	f.smooth(t, "Syn", 32)
	f.Send([]byte("a"), 1, false, 6)
	f.hears("@1 A2", 8)
	f.smooth(t, "the next one", 16)
}

// A piece that is sent behind the others were sent twice doesn't make theirs a sample, nor its own.
func TestNoSampleTillTheQueueIsEmpty(t *testing.T) {
	anywhere(func(x, y uint32) {
		f := open(x, y)
		f.Send([]byte("a"), 1, false, 20)
		f.Send([]byte("b"), 2, false, 21)
		f.Expire(23)
		f.Send([]byte("c"), 3, false, 24)
		f.hears("@1 A2", 25)
		f.smooth(t, "the first one", 8)
		f.Send([]byte("d"), 4, false, 26)
		f.hears("@1 A4", 29)
		f.smooth(t, "the third one", 8)
		f.hears("@1 A5", 31)
		f.smooth(t, "the last one", 8)
		f.Send([]byte("e"), 5, false, 40)
		f.hears("@1 A6", 45)
		f.smooth(t, "behind an empty queue", 12)
	})
}

// Of several pieces the first ones' time is one sample: that since the first one was sent, whether one goes or all.
func TestSampleOfTheFirstOnesAlone(t *testing.T) {
	anywhere(func(x, y uint32) {
		for _, ack := range []string{"A2", "A3", "A4"} {
			f := open(x, y)
			f.Send([]byte("a"), 1, false, 20)
			f.Send([]byte("b"), 2, false, 23)
			f.Send([]byte("c"), 3, false, 24)
			f.hears("@1 "+ack, 26)
			f.smooth(t, ack, 8+5)
			f.hears("@1 A4", 30)
			f.smooth(t, ack+" and the rest", 8+5)
			f.Send([]byte("d"), 4, false, 31)
			f.hears("@1 A5", 34)
			f.smooth(t, "the next one", 13+2)
		}
	})
}

// What acknowledges nothing is no sample, and takes none away.
func TestNoSampleOfNothing(t *testing.T) {
	f := open(1, 2)
	f.Send([]byte("abc"), 1, false, 20)
	for _, words := range []string{"@1 A1", "@1 A2", "@1 A9", "@1", "xy @1", "xy @1", "S @0", "S @0 A4", "R @9"} {
		f.hears(words, 21)
		f.smooth(t, words, 8)
	}
	f.hears("@3 A4", 25)
	f.smooth(t, "A4", 8+4)
}

// The deadline behind pieces that went is reckoned by the sample that they were.
func TestDeadlineBehindASample(t *testing.T) {
	anywhere(func(x, y uint32) {
		f := open(x, y)
		f.Send([]byte("a"), 1, false, 20)
		f.Send([]byte("b"), 2, false, 20)
		f.Out()
		// smoothed 8 + 1, variation 2 + 1: 1 and 3
		f.is(t, "A2", f.hears("@1 A2", 22), "fresh -a#1@1; ; open 26; b#2@2")
		// a further one isn't
		f.Send([]byte("c"), 3, false, 22)
		f.Out()
		f.is(t, "A3", f.hears("@1 A3", 25), "fresh -b#2@2; ; open 29; c#3@3")
		f.is(t, "A4", f.hears("@1 A4", 25), "fresh -c#3@3; ; open -; none")
	})
}

// Ticks that are far apart, or where the greatest ones end: a deadline beyond them isn't come to.
func TestGreatTicks(t *testing.T) {
	for _, c := range []struct{ from, at int }{
		{math.MinInt, math.MinInt + 4}, {math.MaxInt - 5, math.MaxInt - 1}, {math.MaxInt - 4, math.MaxInt}, {-2, 2},
	} {
		f := place{flow.Dial(1, c.from), 1, 1}
		f.Out()
		f.is(t, "Expire ahead", f.Expire(c.at-1), "; ; synsent "+num(c.at)+"; S@0")
		if f.Expire(c.at); len(f.Out()) != 1 {
			t.Errorf("from %d: nothing at %d", c.from, c.at)
		}
	}
	for _, from := range []int{math.MaxInt - 3, math.MaxInt - 1, math.MaxInt} {
		f := place{flow.Dial(1, from), 1, 1}
		f.Out()
		f.is(t, "Expire at the greatest tick", f.Expire(math.MaxInt), "; ; synsent "+num(math.MaxInt)+"; S@0")
	}
	f := place{flow.Dial(1, math.MinInt), 1, 1}
	f.hears("S @0 A1", math.MaxInt)
	f.smooth(t, "from the least tick to the greatest one", 8000)
	f = place{flow.Dial(1, math.MinInt), 1, 1}
	f.Out()
	f.is(t, "Expire from the least tick at the greatest one", f.Expire(math.MaxInt), "; S@0; synsent "+num(math.MaxInt)+"; S@0")
}
