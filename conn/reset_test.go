package conn_test

import (
	"math"
	"testing"

	"ferrybridge/api"
)

// rst is a segment that resets side k's leg, of which the other side has sent next a segment like s.
func rst(s api.Segment, seq uint32) api.Segment {
	return api.Segment{Src: s.Src, Dst: s.Dst, SPort: s.SPort, DPort: s.DPort, Seq: seq, Rst: true}
}

// fast is a segment with Rst and Fast, to side k.
func fast(k int, key uint64, seq uint32) api.Segment {
	s := api.Segment{Src: k ^ 1, Dst: k, SPort: ports[1-k], DPort: ports[k], Seq: seq, Rst: true, Opts: []api.Option{{Kind: api.Fast, Key: key}}}
	return s
}

// Rst with Fast, and this side's key, ends it, wherever its Seq is, in each state.
func TestFast(t *testing.T) {
	for state := api.CInit; state <= api.CTimeWait; state++ {
		for _, seq := range []uint32{0, 1, 1 << 31, math.MaxUint32} {
			d := bring(t, state)
			if !d.side[0].Hear(fast(0, keys[0], seq), d.tick) {
				t.Errorf("%s: it isn't its own", states[state])
			}
			d.is(0, api.CClosed, api.ErrReset, 0)
			d.sends(0, "")
			d.fails(0, api.ErrReset)
		}
	}
	// On any leg, with others beside it, and data that could be read.
	d := joined(t)
	d.writes(1, "xyz")
	d.flow()
	s := fast(0, keys[0], 5)
	s.Dst, s.Acks = 2, true
	s.Opts = append([]api.Option{{Kind: api.Prio}}, s.Opts...)
	d.hear(0, s)
	d.is(0, api.CClosed, api.ErrReset, 0)
	d.fails(0, api.ErrReset)
	d.sends(0, "")
}

// Ahead of being open, too: who answered may have given up.
func TestFastAheadOfBeingOpen(t *testing.T) {
	d := begin(t)
	d.out(1)
	d.ok(d.side[1].Abort(0))
	d.hear(0, d.sends(1, "1>0 AR fast:0")[0])
	d.is(0, api.CClosed, api.ErrReset, 0)
	// On a leg that joins likewise.
	d = told(t)
	d.dials(0, false)
	s := fast(0, keys[0], 5)
	s.Dst = 2
	d.hear(0, s)
	d.is(0, api.CClosed, api.ErrReset, 0)
}

// With another key it is nothing at all: not even where its Seq would be right.
func TestFastWithAWrongKey(t *testing.T) {
	for _, key := range []uint64{0, 1, keys[0] + 1, keys[0] ^ 1<<63, keys[1], ^keys[0]} {
		for state := api.CInit; state <= api.CTimeWait; state++ {
			d := bring(t, state)
			d.till(d.tick) // nothing is on its way
			was, timers := stands(d.side[0]), d.side[0].Timers()
			d.side[1].Abort(d.tick)
			for _, s := range d.side[1].Out() {
				s.Opts = []api.Option{{Kind: api.Fast, Key: key}}
				d.hear(0, s)
			}
			d.hear(0, fast(0, key, 0))
			if got := stands(d.side[0]); got != was || d.side[0].Timers() != timers {
				t.Errorf("%s: %q, not %q", states[state], got, was)
			}
			d.sends(0, "")
		}
		// It wasn't heard either.
		d := open(t)
		d.hear(0, fast(0, key, 0))
		d.side[0].Tick(39)
		d.tick = 20
		d.hear(0, fast(0, key, 0))
		d.side[0].Tick(40)
		d.sends(0, "0>1 A dss:1 w32")
	}
}

// Fast without Rst, or Rst with another option, is no such thing.
func TestFastWithoutRst(t *testing.T) {
	d := open(t)
	s := fast(0, keys[0], 0)
	s.Rst = false
	d.hear(0, s)
	d.is(0, api.COpen, api.OK, 1)
	s.Rst, s.Opts = true, []api.Option{{Kind: api.Capable, Key: keys[0]}}
	d.hear(0, s)
	d.is(0, api.COpen, api.OK, 1)
}

// Rst without Fast: the flow's own, where its Seq is next, and else nothing.
func TestRst(t *testing.T) {
	d := open(t)
	d.writes(1, "xyz")
	s := d.out(1)[0]
	for _, by := range []uint32{1, math.MaxUint32, 1 << 31} {
		d.hear(0, rst(s, s.Seq+by))
		d.is(0, api.COpen, api.OK, 1)
		d.sends(0, "")
	}
	// What is nothing isn't heard.
	d.side[0].Tick(39)
	d.tick = 39
	d.hear(0, rst(s, s.Seq+1))
	d.side[0].Tick(40)
	d.sends(0, "0>1 A dss:1 w32")
	// Nor is its Dss.
	r := rst(s, s.Seq+1)
	r.Opts = []api.Option{{Kind: api.Dss, HasAck: true, Ack: 1, HasMap: true, Dsn: 1, Fin: true}, {Kind: api.Add, Addr: 2}}
	d.hear(0, r)
	d.is(0, api.COpen, api.OK, 1)
	d.told(d.side[0].Join(0, 2, false, 40), api.ErrNone)
	d.hear(0, rst(s, s.Seq))
	d.is(0, api.CClosed, api.ErrReset, 0)
	d.sends(0, "")
}

// The loss of the last leg: reset ahead of being open.
func TestRefused(t *testing.T) {
	// Who dialed is told by what acknowledges its Syn.
	d := begin(t)
	d.out(1)
	s := syn(t)
	r := api.Segment{Src: 1, Dst: 0, SPort: 80, DPort: 1025, Rst: true, Acks: true, Ack: s.Seq}
	d.hear(0, r)
	d.is(0, api.CInit, api.OK, 1)
	r.Ack++
	d.hear(0, r)
	d.is(0, api.CClosed, api.ErrRefused, 0)
	d.fails(0, api.ErrRefused)
	d.sends(0, "")
	// And who answered.
	d.hear(1, rst(s, s.Seq))
	d.is(1, api.CInit, api.OK, 1)
	d.hear(1, rst(s, s.Seq+1))
	d.is(1, api.CClosed, api.ErrRefused, 0)
}

// Reset, in each state from COpen to CLastAck.
func TestLastLegIsReset(t *testing.T) {
	for state := api.COpen; state <= api.CLastAck; state++ {
		d := bring(t, state)
		d.side[1].Abort(d.tick)
		l := d.out(1)
		if len(l) != 1 || !l[0].Rst {
			t.Fatal(all(l))
		}
		l[0].Opts = nil
		d.hear(0, l[0])
		d.is(0, api.CClosed, api.ErrReset, 0)
	}
}

// Given up: the last leg's flow tried often enough.
func TestLastLegIsGivenUp(t *testing.T) {
	d := open(t)
	d.writes(0, "abc")
	d.out(0)
	d.alone(0, 45)
	d.is(0, api.COpen, api.OK, 1)
	d.alone(0, 46)
	d.is(0, api.CClosed, api.ErrTimeout, 0)
}

// What tells the error is the leg that died last.
func TestTheLegThatDiedLast(t *testing.T) {
	// The first one is given up, the second one reset.
	d := joined(t)
	d.ok(d.side[0].Set(api.PickQuick))
	d.writes(0, "abc")
	l := d.out(0)
	if l[0].Src != 0 {
		t.Fatal(all(l))
	}
	for d.tick < 46 {
		d.tick++
		d.side[0].Tick(d.tick)
		for _, s := range d.out(0) {
			if s.Src == 2 {
				d.hear(1, s)
			}
		}
		for _, s := range d.out(1) {
			if s.Dst == 2 {
				d.hear(0, s)
			}
		}
	}
	d.is(0, api.COpen, api.OK, 1)
	d.ok(d.side[1].Abort(46))
	for _, s := range d.out(1) {
		if s.Dst == 2 {
			d.hear(0, rst(s, s.Seq))
		}
	}
	d.is(0, api.CClosed, api.ErrReset, 0)

	// The first one is reset, the second one given up.
	d = joined(t)
	d.writes(0, "abc")
	l = d.out(0)
	d.hear(0, api.Segment{Src: 1, Dst: 0, SPort: 80, DPort: 1025, Rst: true, Seq: l[0].Ack})
	d.is(0, api.COpen, api.OK, 1)
	d.alone(0, 45)
	d.is(0, api.COpen, api.OK, 1)
	d.alone(0, 46)
	d.is(0, api.CClosed, api.ErrTimeout, 0)

	// The last one is killed, for what it has.
	d = open(t)
	kill(d, 0, api.Segment{Src: 1, Dst: 0})
	d.is(0, api.CClosed, api.ErrReset, 0)
}

// As long as a leg joins it isn't the end of all.
func TestALegThatJoinsIsOne(t *testing.T) {
	for k := range 2 {
		d := told(t)
		s := d.dials(0, false)
		if k == 1 {
			d.ok(d.side[1].Joined(s, 0))
			d.out(1)
		}
		d.writes(1-k, "x")
		first := d.out(1 - k)[0]
		d.hear(k, rst(first, first.Seq))
		d.is(k, api.COpen, api.OK, 1)
		d.writes(k, "abc")
		d.sends(k, "")
		d.ok(d.side[k].Shutdown(0))
		d.sends(k, "")
		d.alone(k, 59)
		d.is(k, api.CFin1, api.OK, 1)
		d.alone(k, 60)
		d.is(k, api.CClosed, api.ErrTimeout, 0)
	}
}

// Once it is open all that waited goes, the end, too.
func TestWhatWaitsForALeg(t *testing.T) {
	d := told(t)
	d.ok(d.side[1].Joined(d.dials(0, false), 0))
	answer := d.out(1)[0]
	d.writes(1, "x")
	first := d.out(1)[0]
	d.hear(0, rst(first, first.Seq))
	d.writes(0, "abc")
	d.ok(d.side[0].Shutdown(0))
	d.tick = 3
	d.side[0].Tick(3)
	d.sends(0, "")
	d.hear(0, answer)
	l := d.sends(0, "2>1 A dss:1 joinend w32, 2>1 A dss:1#1+3 joinend w32 abc, 2>1 A dss:1#4+0F joinend w32")
	for _, s := range l {
		d.hear(1, s)
	}
	d.is(1, api.CCloseWait, api.OK, 2)
	d.reads(1, 9, "abc")
}

// A wrong proof kills a leg; if it is the only one, that is the end.
func TestAWrongProofOfTheOnlyLeg(t *testing.T) {
	d := told(t)
	d.ok(d.side[1].Joined(d.dials(0, false), 0))
	answer := d.out(1)[0]
	d.writes(1, "x")
	first := d.out(1)[0]
	d.hear(0, rst(first, first.Seq))
	answer.Opts[0].Mac++
	d.hear(0, answer)
	d.is(0, api.CClosed, api.ErrReset, 0)
}
