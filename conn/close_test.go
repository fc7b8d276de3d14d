package conn_test

import (
	"testing"

	"ferrybridge/api"
	"ferrybridge/close"
)

// P20.2, each call in each state

// calls are those that tell an error, of side 0.
func calls(d *duo) [6]api.Errno {
	c := d.side[0]
	_, w := c.Write([]byte("x"), d.tick)
	_, r := c.Read(9, d.tick)
	return [6]api.Errno{w, r, c.Set(3), c.Set(-1), c.Set(api.PickTurn), c.Err()}
}

func TestCallsInEachState(t *testing.T) {
	for _, row := range []struct {
		state           int
		write, read     api.Errno
		shutdown, close api.Errno
		after           int // the state behind a Shutdown, or a Close
	}{
		{api.CInit, api.ErrWait, api.ErrWait, api.ErrState, api.OK, api.CClosed},
		{api.COpen, api.OK, api.ErrWait, api.OK, api.OK, api.CFin1},
		{api.CFin1, api.ErrClosed, api.ErrWait, api.ErrState, api.OK, api.CFin1},
		{api.CFin2, api.ErrClosed, api.ErrWait, api.ErrState, api.OK, api.CFin2},
		{api.CCloseWait, api.OK, api.ErrClosed, api.OK, api.OK, api.CLastAck},
		{api.CClosing, api.ErrClosed, api.ErrClosed, api.ErrState, api.OK, api.CClosing},
		{api.CLastAck, api.ErrClosed, api.ErrClosed, api.ErrState, api.OK, api.CLastAck},
		{api.CTimeWait, api.ErrClosed, api.ErrClosed, api.ErrState, api.OK, api.CTimeWait},
		{api.CClosed, api.ErrClosed, api.ErrClosed, api.ErrState, api.OK, api.CClosed},
	} {
		d := bring(t, row.state)
		if got := calls(d); got != [6]api.Errno{row.write, row.read, api.ErrArg, api.ErrArg, api.OK, api.OK} {
			t.Errorf("%s: %v", states[row.state], got)
		}
		if d.side[0].State() != row.state {
			t.Errorf("%s is %s", states[row.state], states[d.side[0].State()])
		}

		d = bring(t, row.state)
		d.told(d.side[0].Shutdown(d.tick), row.shutdown)
		after := row.state
		if row.shutdown == api.OK {
			after = row.after
			d.told(d.side[0].Shutdown(d.tick), api.ErrState)
		}
		if d.side[0].State() != after {
			t.Errorf("%s is %s", states[row.state], states[d.side[0].State()])
		}

		d = bring(t, row.state)
		d.told(d.side[0].Close(d.tick), row.close)
		if d.side[0].State() != row.after {
			t.Errorf("%s is %s", states[row.state], states[d.side[0].State()])
		}
		e := api.ErrClosed
		if row.state == api.CInit {
			e = api.ErrAbort
		}
		for range 2 {
			d.told(d.side[0].Close(d.tick), api.ErrTwice)
			want := [6]api.Errno{e, e, api.ErrArg, api.ErrArg, api.OK, d.side[0].Err()}
			if got := calls(d); got != want {
				t.Errorf("%s, closed: %v, not %v", states[row.state], got, want)
			}
		}
		if row.state != api.CInit {
			d.told(d.side[0].Shutdown(d.tick), api.ErrState)
		} else {
			d.told(d.side[0].Shutdown(d.tick), api.ErrAbort)
		}

		d = bring(t, row.state)
		want := api.OK
		if row.state == api.CClosed {
			want = api.ErrTwice
		}
		d.told(d.side[0].Abort(d.tick), want)
		d.told(d.side[0].Abort(d.tick), api.ErrTwice)
		if row.state != api.CClosed {
			d.is(0, api.CClosed, api.ErrAbort, 0)
			d.told(d.side[0].Shutdown(d.tick), api.ErrAbort)
			d.told(d.side[0].Close(d.tick), api.OK)
			d.told(d.side[0].Close(d.tick), api.ErrTwice)
			if got := calls(d); got != [6]api.Errno{api.ErrAbort, api.ErrAbort, api.ErrArg, api.ErrArg, api.OK, api.ErrAbort} {
				t.Errorf("%s, aborted: %v", states[row.state], got)
			}
		} else {
			d.is(0, api.CClosed, api.OK, 0)
		}
	}
}

// What came may be read in each state, once it was open.
func TestReadInEachState(t *testing.T) {
	for state := api.COpen; state <= api.CClosed; state++ {
		d := bringWith(t, state, "abcdef")
		d.reads(0, 0, "")
		d.reads(0, 4, "abcd")
		d.reads(0, 4, "ef")
		if close.Reads(state) {
			d.fails(0, api.ErrWait)
		} else {
			d.fails(0, api.ErrClosed)
		}
		if got := d.side[0].State(); got != state {
			t.Errorf("%s is %s", states[state], states[got])
		}
		d.sends(0, "")
	}
}

// However it ended, that error is told ahead of all others.
func TestCallsBehindAnError(t *testing.T) {
	for want, how := range map[api.Errno]func(d *duo){
		api.ErrAbort: func(d *duo) { d.side[0].Abort(0) },
		api.ErrReset: func(d *duo) { d.side[1].Abort(0); d.flow() },
		api.ErrTimeout: func(d *duo) {
			d.side[0].Tick(64)
		},
	} {
		for _, closed := range []bool{false, true} {
			d := open(t)
			d.writes(1, "xyz")
			d.flow()
			if closed {
				d.reads(0, 9, "xyz")
				d.ok(d.side[0].Close(0))
				d.out(0)
				if want == api.ErrTimeout {
					d.side[0].Tick(30)
				}
			}
			how(d)
			d.out(0)
			d.is(0, api.CClosed, want, 0)
			for _, b := range []string{"", "x"} {
				if n, e := d.side[0].Write([]byte(b), 99); n != 0 || e != want {
					t.Error(n, e)
				}
			}
			d.fails(0, want)
			d.told(d.side[0].Shutdown(99), want)
			d.told(d.side[0].Abort(99), api.ErrTwice)
			d.told(d.side[0].Join(0, 1, false, 99), api.ErrState)
			d.sends(0, "")
		}
	}
}

// Write: the sender's errors, and that what is refused takes nothing.
func TestWriteWithoutRoom(t *testing.T) {
	d := open(t)
	text := alphabet(0, 70)
	if n, e := d.side[0].Write([]byte(text), 0); n != 64 || e != api.OK {
		t.Error(n, e)
	}
	if n, e := d.side[0].Write([]byte("x"), 0); n != 0 || e != api.ErrFull {
		t.Error(n, e)
	}
	d.writes(0, "")
	got := ""
	for len(got) < 64 {
		d.flow()
		b, e := d.side[1].Read(10, 0)
		if e != api.OK {
			t.Fatal(e)
		}
		got += string(b)
	}
	d.flow()
	if got != text[:64] {
		t.Error(got)
	}
	d.writes(0, text[64:])
	d.flow()
	d.reads(1, 99, text[64:])
}

// Half closed: the other direction goes on, whichever it is.
func TestHalfClosed(t *testing.T) {
	for k := range 2 {
		d := open(t)
		d.writes(k, "abc")
		d.ok(d.side[k].Shutdown(0))
		d.flow()
		d.is(k, api.CFin2, api.OK, 1)
		d.is(1-k, api.CCloseWait, api.OK, 1)
		if n, e := d.side[k].Write([]byte("x"), 0); n != 0 || e != api.ErrClosed {
			t.Error(n, e)
		}
		for i := range 20 {
			d.till(3 * (i + 1))
			d.writes(1-k, alphabet(i, 26))
			d.flow()
			d.reads(k, 99, alphabet(i, 26))
			d.fails(k, api.ErrWait)
		}
		d.reads(1-k, 9, "abc")
		d.fails(1-k, api.ErrClosed)
		d.writes(1-k, "last")
		d.ok(d.side[1-k].Shutdown(60))
		d.flow()
		d.reads(k, 9, "last")
		d.fails(k, api.ErrClosed)
		d.is(k, api.CTimeWait, api.OK, 1)
		d.is(1-k, api.CTimeWait, api.OK, 1)
		d.till(67)
		d.is(k, api.CTimeWait, api.OK, 1)
		d.till(68)
		d.is(k, api.CClosed, api.OK, 0)
		d.is(1-k, api.CClosed, api.OK, 0)
		d.fails(k, api.ErrClosed)
	}
}

// What came may be read behind all ends, where it wasn't closed.
func TestReadInClosed(t *testing.T) {
	d := open(t)
	d.writes(0, "abcdef")
	d.ok(d.side[0].Shutdown(0))
	d.ok(d.side[1].Shutdown(0))
	d.flow()
	d.till(20)
	d.is(1, api.CClosed, api.OK, 0)
	d.reads(1, 4, "abcd")
	d.reads(1, 4, "ef")
	d.fails(1, api.ErrClosed)
	d.sends(1, "")
	d.ok(d.side[1].Close(20))
	d.told(d.side[1].Close(20), api.ErrTwice)
	d.is(1, api.CClosed, api.OK, 0)
	// Nor does Close give up what is over already.
	d = open(t)
	d.writes(0, "abcdef")
	d.ok(d.side[0].Shutdown(0))
	d.ok(d.side[1].Shutdown(0))
	d.flow()
	d.till(20)
	d.ok(d.side[1].Close(20))
	d.is(1, api.CClosed, api.OK, 0)
	d.fails(1, api.ErrClosed)
	d.sends(1, "")
}

// Both sides tell their ends at once: each hears the other one's ahead of what tells that its own came.
func TestBothEndAtOnce(t *testing.T) {
	for _, how := range []string{"shutdown", "close"} {
		d := open(t)
		var l [2][]api.Segment
		for k, c := range d.side {
			if how == "close" {
				d.ok(c.Close(0))
			} else {
				d.ok(c.Shutdown(0))
			}
			d.is(k, api.CFin1, api.OK, 1)
			l[k] = d.sends(k, way1(k)+"A dss:1#1+0F w32")
		}
		var acks [2][]api.Segment
		for k := range d.side {
			d.hear(k, l[1-k][0])
			d.is(k, api.CClosing, api.OK, 1)
			acks[k] = d.sends(k, way1(k)+"A dss:2 w32")
		}
		for k := range d.side {
			d.hear(k, acks[1-k][0])
			d.is(k, api.CTimeWait, api.OK, 1)
			d.sends(k, way1(k)+"AF dss:2 w32")
		}
		for k, c := range d.side {
			for tick := 1; tick < 8; tick++ {
				c.Tick(tick)
				d.is(k, api.CTimeWait, api.OK, 1)
			}
			c.Tick(8)
			d.is(k, api.CClosed, api.OK, 0)
		}
	}
}

// Both are told by one segment.
func TestEndAndAckAtOnce(t *testing.T) {
	d := open(t)
	d.ok(d.side[0].Shutdown(0))
	d.hear(1, d.out(0)[0])
	d.out(1)
	d.ok(d.side[1].Shutdown(0))
	d.is(1, api.CLastAck, api.OK, 1)
	d.hear(0, d.sends(1, "1>0 A dss:2#1+0F w32")[0])
	d.is(0, api.CTimeWait, api.OK, 1)
	l := d.sends(0, "0>1 A dss:2 w32, 0>1 AF dss:2 w32")
	d.hear(1, l[0])
	d.is(1, api.CTimeWait, api.OK, 1)
}

// CTimeWait: all legs are closed, and those that open only then, too; 8 ticks later it is CClosed.
func TestTimeWait(t *testing.T) {
	d := joined(t)
	d.ok(d.side[1].Tell(3, 0))
	d.flow()
	d.ok(d.side[0].Join(0, 3, false, 0))
	syn := d.out(0)[0]
	d.ok(d.side[1].Joined(syn, 0))
	late := d.out(1)[0]
	for k := range 2 {
		d.ok(d.side[k].Shutdown(0))
	}
	ends := d.out(1)
	d.bring(0)
	for _, s := range append(ends, d.out(1)...) {
		d.hear(0, s)
	}
	d.is(0, api.CTimeWait, api.OK, 3)
	fins := 0
	for _, s := range d.out(0) {
		if s.Fin {
			fins++
		}
	}
	if fins != 2 {
		t.Error(fins)
	}
	d.tick = 5
	d.side[0].Tick(5)
	d.out(0)
	d.hear(0, late)
	d.sends(0, "0>3 A dss:2 joinend w32, 0>3 AF dss:2 joinend w32")
	// What is told once more is answered, but not waited for anew.
	d.hear(0, ends[0])
	d.sends(0, "0>1 A dss:2 w32")
	d.tick = 7
	d.side[0].Tick(7)
	d.out(0)
	d.is(0, api.CTimeWait, api.OK, 3)
	d.side[0].Tick(8)
	d.is(0, api.CClosed, api.OK, 0)
	d.fails(0, api.ErrClosed)
}

// A leg that is done is none any more, though CTimeWait isn't over.
func TestALegThatIsDone(t *testing.T) {
	d := open(t)
	d.ok(d.side[0].Shutdown(0))
	d.flow()
	d.ok(d.side[1].Shutdown(0))
	d.bring(1)
	// Its Fin comes ahead of what else it tells.
	fin := d.sends(0, "0>1 A dss:2 w32, 0>1 AF dss:2 w32")[1]
	d.hear(1, fin)
	d.is(1, api.CTimeWait, api.OK, 1)
	d.bring(1)
	if !d.side[1].Mine(fin) {
		t.Error("it isn't done yet")
	}
	d.bring(0)
	d.is(1, api.CTimeWait, api.OK, 0)
	if d.side[1].Mine(fin) || d.side[1].Hear(fin, 0) {
		t.Error("it is done")
	}
	d.sends(1, "")
	d.till(7)
	d.is(1, api.CTimeWait, api.OK, 0)
	d.till(8)
	d.is(0, api.CClosed, api.OK, 0)
	d.is(1, api.CClosed, api.OK, 0)
}

// What isn't done by then is reset, without Fast.
func TestTimeWaitIsOver(t *testing.T) {
	d := joined(t)
	for k := range 2 {
		d.ok(d.side[k].Shutdown(0))
	}
	ends := d.out(1)
	d.bring(0)
	for _, s := range append(ends, d.out(1)...) {
		d.hear(0, s)
	}
	d.is(0, api.CTimeWait, api.OK, 2)
	d.side[0].Tick(7)
	d.out(0)
	d.side[0].Tick(8)
	d.is(0, api.CClosed, api.OK, 0)
	l := d.out(0)
	if len(l) < 2 || all(l[len(l)-2:]) != "0>1 AR, 2>1 AR joinend" {
		t.Error(all(l))
	}
}

// In CTimeWait it isn't the end of all that no leg is left.
func TestTimeWaitWithoutLegs(t *testing.T) {
	d := legless(t)
	for tick := 1; tick < 8; tick++ {
		d.is(0, api.CTimeWait, api.OK, 0)
		d.side[0].Tick(tick)
	}
	d.side[0].Tick(8)
	d.is(0, api.CClosed, api.OK, 0)
}

// legless is two sides of which the first one is in CTimeWait, and has no leg any more.
func legless(t *testing.T) *duo {
	t.Helper()
	d := open(t)
	d.ok(d.side[0].Shutdown(0))
	d.flow()
	d.ok(d.side[1].Shutdown(0))
	end := d.out(1)[0]
	d.hear(0, end)
	l := d.out(0)
	rst := end
	rst.Opts, rst.Rst = nil, true
	d.hear(0, rst)
	if len(l) != 2 || d.side[0].Legs() != 0 {
		t.Fatal(all(l))
	}
	return d
}

// P20.2, Close

// With data that could be read it aborts, in each state in which there may be such.
func TestCloseWithDataToRead(t *testing.T) {
	for state := api.COpen; state <= api.CTimeWait; state++ {
		for _, text := range []string{"x", "xyz"} {
			d := bringWith(t, state, text)
			d.ok(d.side[0].Close(0))
			d.is(0, api.CClosed, api.ErrAbort, 0)
			d.fails(0, api.ErrAbort)
			d.told(d.side[0].Close(0), api.ErrTwice)
			l := d.out(0)
			if state == api.CTimeWait {
				continue // its leg may have nobody to tell it any more
			}
			if all(l) != "0>1 AR fast:1" {
				t.Fatalf("%s: %s", states[state], all(l))
			}
			d.hear(1, l[0])
			d.is(1, api.CClosed, api.ErrReset, 0)
		}
	}
	// What is over isn't aborted.
	d := bringWith(t, api.CClosed, "xyz")
	d.ok(d.side[0].Close(8))
	d.is(0, api.CClosed, api.OK, 0)
	d.fails(0, api.ErrClosed)
	d.sends(0, "")
	// Data that can't be read yet are none.
	d = open(t)
	d.writes(1, alphabet(0, 16))
	d.hear(0, d.out(1)[1])
	d.out(0)
	d.ok(d.side[0].Close(0))
	d.is(0, api.CFin1, api.OK, 1)
	d.sends(0, "0>1 A dss:1#1+0F w32")
}

// Once all is read it shuts down.
func TestCloseWithoutDataToRead(t *testing.T) {
	d := open(t)
	d.writes(0, "abc")
	d.writes(1, "xyz")
	d.flow()
	d.reads(0, 9, "xyz")
	d.ok(d.side[0].Close(0))
	d.is(0, api.CFin1, api.OK, 1)
	d.fails(0, api.ErrClosed)
	d.flow()
	d.is(0, api.CFin2, api.OK, 1)
	d.is(1, api.CCloseWait, api.OK, 1)
	d.reads(1, 9, "abc")
	d.ok(d.side[1].Close(0))
	d.flow()
	d.till(8)
	d.is(0, api.CClosed, api.OK, 0)
	d.is(1, api.CClosed, api.OK, 0)
}

// In CInit it aborts.
func TestCloseInInit(t *testing.T) {
	d := begin(t)
	d.out(1)
	d.ok(d.side[0].Close(0))
	d.is(0, api.CClosed, api.ErrAbort, 0)
	d.sends(0, "")
	d.ok(d.side[1].Close(0))
	d.is(1, api.CClosed, api.ErrAbort, 0)
	d.sends(1, "1>0 AR fast:0")
}

// Linger ticks later it is given up, in whichever state it is ahead of CClosed.
func TestLinger(t *testing.T) {
	for state := api.COpen; state <= api.CLastAck; state++ {
		d := bring(t, state)
		for tick := 1; tick <= 3; tick++ {
			d.alone(0, tick)
		}
		d.ok(d.side[0].Close(3))
		d.out(0)
		d.alone(0, 32)
		if c := d.side[0]; c.State() == api.CClosed || c.Err() != api.OK || c.Legs() != 1 {
			t.Errorf("%s: %s", states[state], stands(c))
		}
		d.tick = 33
		d.side[0].Tick(33)
		d.is(0, api.CClosed, api.ErrTimeout, 0)
		l := d.out(0)
		if got := words(l[len(l)-1]); got != "0>1 AR fast:1" {
			t.Errorf("%s: %s", states[state], got)
		}
		d.fails(0, api.ErrTimeout)
	}
	// A Shutdown alone isn't given up so.
	d := bring(t, api.CFin2)
	d.alone(0, 39)
	d.is(0, api.CFin2, api.OK, 1)
}

// The other side goes on as it likes, but writes nothing: it is given up all the same.
func TestLingerThoughTheOtherSideIsThere(t *testing.T) {
	d := open(t)
	d.ok(d.side[0].Close(0))
	d.till(29)
	d.is(0, api.CFin2, api.OK, 1)
	d.is(1, api.CCloseWait, api.OK, 1)
	d.till(30)
	d.is(0, api.CClosed, api.ErrTimeout, 0)
	d.is(1, api.CClosed, api.ErrReset, 0)
}

// In CTimeWait, too, if that comes late.
func TestLingerInTimeWait(t *testing.T) {
	for _, at := range []int{21, 22, 23, 29} {
		d := open(t)
		d.ok(d.side[0].Close(0))
		d.till(at)
		d.ok(d.side[1].Shutdown(at))
		d.flow()
		d.is(0, api.CTimeWait, api.OK, 1)
		d.till(30)
		if at+8 <= 30 {
			d.is(0, api.CClosed, api.OK, 0)
		} else {
			d.is(0, api.CClosed, api.ErrTimeout, 0)
		}
	}
}

// Data that come behind it abort; those that came already, or don't come, don't.
func TestDataBehindClose(t *testing.T) {
	d := open(t)
	d.writes(1, "abc")
	first := d.out(1)[0]
	d.hear(0, first)
	d.reads(0, 9, "abc")
	d.out(0)
	d.ok(d.side[0].Close(0))
	d.out(0)
	d.hear(0, first)
	d.is(0, api.CFin1, api.OK, 1)
	d.out(0)
	d.writes(1, "x")
	d.hear(0, d.out(1)[0])
	d.is(0, api.CClosed, api.ErrReset, 0)
	l := d.sends(0, "0>1 A dss:5 w31, 0>1 AR fast:1")
	d.hear(1, l[1])
	d.is(1, api.CClosed, api.ErrReset, 0)
	d.fails(0, api.ErrReset)
	// Behind a Shutdown they come.
	d = open(t)
	d.ok(d.side[0].Shutdown(0))
	d.writes(1, "x")
	d.flow()
	d.reads(0, 9, "x")
}

// What came on one leg comes once more on another one, behind Close: that is no datum that comes.
func TestDataBehindCloseThatCame(t *testing.T) {
	d := joined(t)
	d.ok(d.side[1].Set(api.PickAll))
	d.writes(1, "abc")
	l := d.out(1)
	d.hear(0, l[0])
	d.reads(0, 9, "abc")
	d.ok(d.side[0].Close(0))
	d.out(0)
	d.hear(0, l[1])
	d.is(0, api.CFin1, api.OK, 2)
}

// Abort: each leg is killed, with Fast and the other one's key.
func TestAbort(t *testing.T) {
	d := joined(t)
	d.ok(d.side[1].Tell(3, 0))
	d.flow()
	// One that was only dialed, one that was only answered.
	d.ok(d.side[0].Join(0, 3, false, 0))
	d.out(0)
	d.ok(d.side[0].Joined(api.Segment{Src: 3, Dst: 2, SPort: 80, DPort: 1025, Syn: true, Opts: []api.Option{{Kind: api.Join, Token: d.side[0].Token(), Addr: 3}}}, 0))
	d.out(0)
	d.writes(0, "abc")
	d.is(0, api.COpen, api.OK, 4)
	d.ok(d.side[0].Abort(0))
	d.is(0, api.CClosed, api.ErrAbort, 0)
	l := d.sends(0, "0>1 A dss:1#1+3 w32 abc, 0>1 AR fast:1, 2>1 AR fast:1 joinend, 2>3 AR fast:1")
	d.hear(1, l[2])
	d.is(1, api.CClosed, api.ErrReset, 0)
	d.sends(1, "")
}
