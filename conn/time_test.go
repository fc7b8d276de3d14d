package conn_test

import (
	"fmt"
	"math"
	"strings"
	"testing"

	"ferrybridge/api"
	"ferrybridge/conn"
)

// Keeping alive: the other side is asked when nothing was heard for 40 ticks, three times, each 8 ticks, and given up then.
func TestIdle(t *testing.T) {
	for k := range 2 {
		d := joined(t)
		for tick := 1; tick < 64; tick++ {
			d.tick = tick
			d.side[k].Tick(tick)
			want := ""
			if tick == 40 || tick == 48 || tick == 56 {
				want = [2]string{"0>1 A dss:1 w32, 2>1 A dss:1 joinend w32", "1>0 A dss:1 w32, 1>2 A dss:1 w32"}[k]
			}
			d.sends(k, want)
			d.is(k, api.COpen, api.OK, 2)
		}
		d.tick = 64
		d.side[k].Tick(64)
		d.is(k, api.CClosed, api.ErrTimeout, 0)
		d.fails(k, api.ErrTimeout)
		// It is no Abort, so without Fast.
		d.sends(k, [2]string{"0>1 AR, 2>1 AR joinend", "1>0 AR, 1>2 AR"}[k])
	}
}

// In each state from COpen on: nothing is heard, and that ends it.
func TestIdleInEachState(t *testing.T) {
	for _, row := range []struct{ state, at int }{{api.COpen, 64}, {api.CFin1, 40}, {api.CFin2, 64}, {api.CCloseWait, 64}, {api.CClosing, 40}, {api.CLastAck, 40}} {
		d := bring(t, row.state)
		d.alone(0, row.at-1)
		d.is(0, row.state, api.OK, 1)
		d.alone(0, row.at)
		d.is(0, api.CClosed, api.ErrTimeout, 0)
	}
}

// What is asked is answered, and that is heard: two sides that hear of one another stay.
func TestAskingIsAnswered(t *testing.T) {
	d := open(t)
	asked := 0
	for tick := 1; tick <= 1000; tick++ {
		d.tick = tick
		for k, c := range d.side {
			c.Tick(tick)
			l := d.out(k)
			asked += len(l)
			for _, s := range l {
				d.hear(1-k, s)
			}
		}
		d.flow()
	}
	d.is(0, api.COpen, api.OK, 1)
	d.is(1, api.COpen, api.OK, 1)
	// One asks, and the other one hears that.
	if asked != 25 && asked != 50 {
		t.Error(asked)
	}
}

// An answer to the last asking is enough, and begins it anew.
func TestAskingBeginsAnew(t *testing.T) {
	d := open(t)
	for round := range 5 {
		begin := 63 * round
		for tick := begin + 1; tick < begin+63; tick++ {
			d.side[0].Tick(tick)
		}
		d.tick = begin + 63
		d.side[0].Tick(d.tick)
		l := d.out(0)
		if len(l) != 3 {
			t.Error(all(l))
		}
		d.hear(1, l[2])
		d.hear(0, d.sends(1, "1>0 A dss:1 w32")[0])
		d.sends(0, "")
		d.is(0, api.COpen, api.OK, 1)
	}
}

// It is heard by whatever comes, data, or what tells that these came.
func TestHearingBeginsAnew(t *testing.T) {
	d := open(t)
	d.till(30)
	d.writes(1, "x")
	l := d.out(1)
	d.hear(0, l[0])
	d.hear(1, d.out(0)[0])
	for k := range d.side {
		d.side[k].Tick(69)
		d.sends(k, "")
		d.side[k].Tick(70)
		d.sends(k, [2]string{"0>1 A dss:2 w31", "1>0 A dss:1 w32"}[k])
	}
}

// While the window is used up, and nothing is on its way, the other side is asked each 8 ticks.
func TestAskingForTheWindow(t *testing.T) {
	d, s := full(t)
	// As long as data are on their way it isn't.
	d.side[0].Tick(1)
	d.sends(0, "")
	d.tick = 1
	d.hear(0, s)
	d.sends(0, "")
	for tick := 2; tick <= 33; tick++ {
		d.tick = tick
		d.side[0].Tick(tick)
		want := ""
		if tick == 9 || tick == 17 || tick == 25 || tick == 33 {
			want = "0>1 A dss:1 w32"
		}
		l := d.sends(0, want)
		if tick == 25 {
			d.hear(1, l[0])
			d.hear(0, d.sends(1, "1>0 A dss:33")[0])
		}
	}
	// What told that it is wide again is lost; the next asking brings it.
	d.reads(1, 99, alphabet(0, 32))
	d.sends(1, "1>0 A dss:33 w32")
	for tick := 34; tick <= 41; tick++ {
		d.tick = tick
		d.side[0].Tick(tick)
	}
	d.flow()
	d.reads(1, 99, alphabet(32, 32))
	d.flow()
	for tick := 42; tick < 80; tick++ {
		d.side[0].Tick(tick)
		d.sends(0, "")
	}
}

// What is on its way may be one datum; a Syn isn't one.
func TestAskingForTheWindowWithOneDatum(t *testing.T) {
	d := open(t)
	d.writes(0, alphabet(0, 31))
	d.flow()
	d.writes(0, alphabet(0, 10))
	d.sends(0, "0>1 A dss:1#32+1 w32 a")
	for tick := 1; tick < 30; tick++ {
		d.tick = tick
		d.side[0].Tick(tick)
		want := ""
		if tick == 2 || tick == 6 || tick == 14 {
			want = "0>1 A dss:1#32+1 w32 a"
		}
		d.sends(0, want)
	}
	d = told(t)
	d.dials(0, false)
	d.writes(0, alphabet(0, 40))
	d.flow()
	d.side[0].Tick(8)
	if got := all(d.out(0)); !strings.Contains(got, "0>1 A dss:1 w32") {
		t.Error(got)
	}
}

// Without data that wait nobody is asked for it.
func TestNoAskingWithoutData(t *testing.T) {
	d := open(t)
	d.writes(0, alphabet(0, 32))
	d.flow()
	d.side[0].Tick(39)
	d.sends(0, "")
	d.ok(d.side[0].Shutdown(39))
	d.sends(0, "0>1 A dss:1#33+0F w32")
}

// It is asked on each leg that is open.
func TestAskingForTheWindowOnEachLeg(t *testing.T) {
	d := joined(t)
	d.writes(0, alphabet(0, 40))
	d.flow()
	d.side[0].Tick(7)
	d.sends(0, "")
	d.side[0].Tick(8)
	d.sends(0, "0>1 A dss:1 w32, 2>1 A dss:1 joinend w32")
}

// P20.3, Tick

// Time goes on tick by tick, whether that is told one by one or at once.
func TestTickByTickOrAtOnce(t *testing.T) {
	begins := []func(*testing.T) *duo{
		begin, open, joined,
		func(t *testing.T) *duo { return bring(t, api.CFin1) },
		func(t *testing.T) *duo { return bring(t, api.CTimeWait) },
		func(t *testing.T) *duo { d := open(t); d.ok(d.side[0].Close(0)); return d },
		func(t *testing.T) *duo { d := joined(t); d.writes(0, alphabet(0, 64)); return d },
		func(t *testing.T) *duo { d, s := full(t); d.hear(0, s); return d },
	}
	for i, f := range begins {
		for _, to := range []int{1, 2, 3, 7, 8, 9, 30, 40, 41, 46, 60, 64, 65, 4096, 9999, 10000} {
			one, once := f(t), f(t)
			for tick := 1; tick <= to; tick++ {
				one.side[0].Tick(tick)
			}
			once.side[0].Tick(to)
			a, b := all(one.out(0)), all(once.out(0))
			if a != b || stands(one.side[0]) != stands(once.side[0]) || one.side[0].Timers() != once.side[0].Timers() {
				t.Errorf("%d, to %d: %q %q, not %q %q", i, to, b, stands(once.side[0]), a, stands(one.side[0]))
			}
		}
	}
}

// A tick that is no later does nothing.
func TestTickThatIsNoLater(t *testing.T) {
	d := open(t)
	d.writes(0, "abc")
	d.out(0)
	d.side[0].Tick(1)
	for _, tick := range []int{1, 0, -1, math.MinInt, -1 << 40} {
		d.side[0].Tick(tick)
		d.sends(0, "")
	}
	d.side[0].Tick(2)
	d.sends(0, "0>1 A dss:1#1+3 w32 abc")
	d.side[0].Tick(2)
	d.sends(0, "")
}

// By at most 10000 in one call: what is due further on is so only when time went on once more.
func TestTickByMoreThan10000(t *testing.T) {
	for _, to := range []int{20040, 25000, 40000, math.MaxInt} {
		d := open(t)
		// It was heard at a tick that is far ahead.
		d.writes(1, "x")
		d.side[0].Hear(d.out(1)[0], 20000)
		d.out(0)
		d.side[0].Tick(to)
		d.side[0].Tick(to)
		d.sends(0, "")
		d.is(0, api.COpen, api.OK, 1)
		// Now it is at 20000.
		d.side[0].Tick(20039)
		d.sends(0, "")
		d.side[0].Tick(20040)
		d.sends(0, "0>1 A dss:2 w31")
	}
	// Exactly so many.
	for _, to := range []int{9999, 10000, 10001} {
		d := open(t)
		d.writes(1, "x")
		d.side[0].Hear(d.out(1)[0], to-40)
		d.out(0)
		d.side[0].Tick(max(to, 10001))
		want := "0>1 A dss:2 w31"
		if to > 10000 {
			want = ""
		}
		d.sends(0, want)
	}
}

// It is the same from whichever tick on.
func TestTickFromFarAway(t *testing.T) {
	for _, begin := range []int{math.MinInt, -1 << 41, -77, 0, 5, 1 << 40, 1 << 50, math.MaxInt - 20000} {
		c, _ := conn.Dial(keys[0], conn.Ends{Own: 0, Other: 1, OwnPort: ports[0], OtherPort: ports[1]}, begin)
		c.Out()
		c.Tick(begin + 11)
		if got := all(c.Out()); got != hello {
			t.Errorf("from %d on: %q", begin, got)
		}
		c.Tick(begin + 12)
		if got := all(c.Out()); got != hello {
			t.Errorf("from %d on: %q", begin, got)
		}
		c.Tick(begin + 10012)
		if !c.Over() || c.Err() != api.ErrTimeout {
			t.Errorf("from %d on: %s", begin, stands(c))
		}
	}
}

// What a call does at a tick that no Tick told yet is due from that one on, however far ahead that is.
func TestTimersFarAhead(t *testing.T) {
	for _, ahead := range []int{50, 4095, 4096, 4097, 9000, 25000} {
		d := open(t)
		d.side[0].Write([]byte("abc"), ahead)
		d.out(0)
		d.side[0].Hear(api.Segment{Src: 1, Dst: 0, SPort: 80, DPort: 1025}, ahead)
		d.out(0)
		for range ahead/10000 + 1 {
			d.side[0].Tick(ahead + 1)
		}
		d.sends(0, "")
		d.side[0].Tick(ahead + 2)
		d.sends(0, "0>1 A dss:1#1+3 w32 abc")
		d.is(0, api.COpen, api.OK, 1)
		d.side[0].Tick(ahead + 46)
		d.is(0, api.CClosed, api.ErrTimeout, 0)
	}
}

// At any ticks whatever nothing panics, and all ends.
func TestAnyTicks(t *testing.T) {
	for _, n := range edges {
		for _, m := range edges {
			d := joined(t)
			c := d.side[0]
			s := api.Segment{Src: 1, Dst: 0, SPort: 80, DPort: 1025, Acks: true, Win: m}
			c.Hear(s, n)
			c.Write([]byte("abcdefghi"), m)
			c.Tick(n)
			c.Read(m, n)
			c.Tell(m, n)
			c.Join(n, m, true, m)
			c.Joined(s, n)
			c.Set(n)
			c.Shutdown(m)
			c.Tick(m)
			c.Close(n)
			c.Hear(s, m)
			c.Tick(n)
			c.Abort(m)
			if !c.Over() {
				t.Error(n, m, stands(c))
			}
		}
	}
}

// P20.3, Timers and Legs

func TestTimers(t *testing.T) {
	d := begin(t)
	for k, c := range d.side {
		if c.Timers() < 1 || c.Legs() != 1 {
			t.Error(k, c.Timers(), c.Legs())
		}
	}
	d.flow()
	for k, c := range d.side {
		if c.Timers() != 1 || c.Legs() != 1 {
			t.Error(k, c.Timers(), c.Legs())
		}
	}
	c := d.side[0]
	for i, row := range []struct {
		do   func()
		want int
	}{
		{func() { d.writes(0, "abc") }, 2},                                         // the leg's
		{func() { d.ok(c.Tell(2, 0)) }, 2},                                         // telling needs none
		{func() { d.ok(c.Join(2, 1, false, 0)) }, 3},                               // one more leg's
		{func() { d.ok(c.Shutdown(0)) }, 4},                                        // the end's
		{func() { d.ok(c.Close(0)) }, 5},                                           // how long it lingers
		{func() { d.flow() }, 2},                                                   // all came
		{func() { d.reads(1, 9, "abc"); d.ok(d.side[1].Close(0)); d.bring(1) }, 5}, // two legs', and how long it waits
		{func() { c.Abort(0) }, 0},
	} {
		row.do()
		if got := c.Timers(); got != row.want {
			t.Errorf("%d: %d, not %d", i, got, row.want)
		}
	}
	d.is(0, api.CClosed, api.ErrAbort, 0)
}

// The window's is one, too.
func TestTimersOfTheWindow(t *testing.T) {
	d, s := full(t)
	if got := d.side[0].Timers(); got != 2 {
		t.Error(got)
	}
	d.hear(0, s)
	if got := d.side[0].Timers(); got != 2 {
		t.Error(got)
	}
	d.reads(1, 99, alphabet(0, 32))
	d.hear(0, d.out(1)[0])
	if got := d.side[0].Timers(); got != 2 {
		t.Error(got)
	}
	d.flow()
	if got := d.side[0].Timers(); got != 1 {
		t.Error(got)
	}
}

// A segment that comes doesn't depend on what isn't its own: two connections are apart.
func TestTwoConnections(t *testing.T) {
	d, e := open(t), open(t)
	d.writes(0, "abc")
	if got := fmt.Sprint(all(e.out(0)), stands(e.side[0])); got != "open 0 1 true false" {
		t.Error(got)
	}
	e.ok(e.side[0].Abort(0))
	d.is(0, api.COpen, api.OK, 1)
	d.flow()
	d.reads(1, 9, "abc")
}
