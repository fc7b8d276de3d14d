package conn_test

import (
	"math"
	"slices"
	"testing"

	"ferrybridge/api"
	"ferrybridge/conn"
	"ferrybridge/key"
	"ferrybridge/segment"
)

// edges are numbers at which something begins or ends.
var edges = []int{math.MinInt, math.MinInt + 1, -1 << 32, -65536, -1, 0, 1, 2, 3, 4, 5, 79, 255, 65535, 65536, 1 << 32, math.MaxInt - 1, math.MaxInt}

// The chapter's example

func TestExample(t *testing.T) {
	c, e := conn.Dial(7, conn.Ends{Own: 2, Other: 3, OwnPort: 1000, OtherPort: 80}, 0)
	if e != api.OK {
		t.Fatal(e)
	}
	l := c.Out()
	want := api.Segment{Src: 2, Dst: 3, SPort: 1000, DPort: 80, Syn: true, Opts: []api.Option{{Kind: api.Capable, Key: 7}}}
	if len(l) == 1 {
		want.Seq = l[0].Seq
	}
	if len(l) != 1 || !segment.Same(l[0], want) {
		t.Error(l)
	}
	if l := c.Out(); len(l) != 0 {
		t.Error(l)
	}
}

// The examples of the whole, as far as they are of two connections: how much is sent, told and read.
func TestSession(t *testing.T) {
	d := begin(t)
	a, b := d.side[0], d.side[1]
	if a.State() != api.CInit || b.State() != api.CInit {
		t.Error(a.State(), b.State())
	}
	step := func(k int, want string) {
		t.Helper()
		l := d.out(k)
		if got := all(l); got != want {
			t.Errorf("side %d sends %q, not %q", k, got, want)
		}
		for _, s := range l {
			d.hear(1-k, s)
		}
	}
	step(1, "1>0 SA capable:1")
	d.is(0, api.COpen, api.OK, 1)
	step(0, "0>1 A dss:1 w32")
	d.is(1, api.COpen, api.OK, 1)
	d.writes(0, "\x00\x01\x02")
	d.fails(1, api.ErrWait)
	step(0, "0>1 A dss:1#1+3 w32 \x00\x01\x02")
	d.reads(1, 9, "\x00\x01\x02")
	step(1, "1>0 A dss:4 w29")
	step(0, "")
	step(1, "")
	d.fails(1, api.ErrWait)
	if a.Timers() != 1 || b.Timers() != 1 {
		t.Error(a.Timers(), b.Timers())
	}
	d.ok(a.Shutdown(0))
	d.is(0, api.CFin1, api.OK, 1)
	if n, e := a.Write([]byte("x"), 0); n != 0 || e != api.ErrClosed {
		t.Error(n, e)
	}
	step(0, "0>1 A dss:1#4+0F w32")
	d.is(1, api.CCloseWait, api.OK, 1)
	step(1, "1>0 A dss:5 w32")
	step(0, "")
	d.is(0, api.CFin2, api.OK, 1)
	d.fails(1, api.ErrClosed)
	d.ok(b.Abort(0))
	step(1, "1>0 AR fast:0")
	step(0, "")
	d.is(0, api.CClosed, api.ErrReset, 0)
	d.is(1, api.CClosed, api.ErrAbort, 0)
	d.fails(0, api.ErrReset)
}

// P20.1, Dial

func TestDialAtAddressesAndPorts(t *testing.T) {
	for at := range 4 {
		for _, n := range edges {
			e := conn.Ends{Own: 1, Other: 2, OwnPort: 3, OtherPort: 4}
			field := []*int{&e.Own, &e.Other, &e.OwnPort, &e.OtherPort}[at]
			*field = n
			c, err := conn.Dial(5, e, 0)
			greatest := []int{3, 3, 65535, 65535}[at]
			if n < 0 || n > greatest {
				if c != nil || err != api.ErrArg {
					t.Errorf("%+v: error %d", e, err)
				}
				continue
			}
			if c == nil || err != api.OK {
				t.Errorf("%+v: error %d", e, err)
				continue
			}
			l := c.Out()
			if len(l) != 1 || l[0].Src != e.Own || l[0].Dst != e.Other || l[0].SPort != e.OwnPort || l[0].DPort != e.OtherPort {
				t.Errorf("%+v: %v", e, l)
			}
			back := segment.Reply(l[0])
			if stands(c) != "init 0 1 true false" || !c.Mine(back) || c.Mine(l[0]) {
				t.Errorf("%+v: %s", e, stands(c))
			}
		}
	}
}

// At any tick all goes on in the same way.
func TestDialAtAnyTick(t *testing.T) {
	for _, tick := range append(slices.Clone(edges), 1<<40-1, 1<<40, 1<<40+1, 1<<62) {
		c, e := conn.Dial(5, conn.Ends{}, tick)
		if e != api.OK || len(c.Out()) != 1 {
			t.Fatal(tick, e)
		}
		if tick > math.MaxInt-60 {
			c.Tick(math.MaxInt)
			continue
		}
		sent := 0
		for n := range 60 {
			c.Tick(tick + n)
			sent += len(c.Out())
		}
		if sent != 4 || c.Over() {
			t.Errorf("from %d on: sent %d times, %s", tick, sent, stands(c))
		}
		c.Tick(tick + 60)
		if stands(c) != "closed 13 0 false true" {
			t.Errorf("from %d on: %s", tick, stands(c))
		}
	}
}

// P20.1, Accept

// syn is a Syn with Capable, as the first side sends it.
func syn(t *testing.T) api.Segment {
	t.Helper()
	c, _ := conn.Dial(keys[0], conn.Ends{Own: 0, Other: 1, OwnPort: ports[0], OtherPort: ports[1]}, 0)
	return c.Out()[0]
}

func TestAccept(t *testing.T) {
	for _, own := range []uint64{0, 1, keys[1], math.MaxUint64} {
		s := syn(t)
		c, e := conn.Accept(own, s, 0)
		if e != api.OK {
			t.Fatal(e)
		}
		l := c.Out()
		want := api.Segment{Src: 1, Dst: 0, SPort: 80, DPort: 1025, Ack: s.Seq + 1, Syn: true, Acks: true, Opts: []api.Option{{Kind: api.Capable, Key: own}}}
		if len(l) == 1 {
			want.Seq = l[0].Seq
		}
		if len(l) != 1 || !segment.Same(l[0], want) {
			t.Error(l)
		}
		if stands(c) != "init 0 1 true false" || c.Token() != key.Token(own) || !c.Mine(s) {
			t.Error(stands(c))
		}
	}
}

func TestAcceptRefuses(t *testing.T) {
	for name, change := range map[string]func(*api.Segment){
		"an address below 0":  func(s *api.Segment) { s.Src = -1 },
		"an address above 3":  func(s *api.Segment) { s.Dst = 4 },
		"a port below 0":      func(s *api.Segment) { s.SPort = -1 },
		"a port above 65535":  func(s *api.Segment) { s.DPort = 65536 },
		"a window below 0":    func(s *api.Segment) { s.Win = -1 },
		"a window above":      func(s *api.Segment) { s.Win = 65536 },
		"the least number":    func(s *api.Segment) { s.Src = math.MinInt },
		"the greatest number": func(s *api.Segment) { s.Dst = math.MaxInt },
		"too many options": func(s *api.Segment) {
			s.Opts = slices.Repeat(s.Opts, 5)
		},
		"an option that isn't right": func(s *api.Segment) { s.Opts = append(s.Opts, api.Option{Kind: 12}) },
		"a Capable that isn't right": func(s *api.Segment) { s.Opts[0].Addr = 1 },
		"too many bytes":             func(s *api.Segment) { s.Data = make([]byte, 9) },
		"no Syn":                     func(s *api.Segment) { s.Syn = false },
		"Acks":                       func(s *api.Segment) { s.Acks = true },
		"neither":                    func(s *api.Segment) { s.Syn, s.Acks = false, true },
		"no Capable":                 func(s *api.Segment) { s.Opts = nil },
		"another option":             func(s *api.Segment) { s.Opts = []api.Option{{Kind: api.Join}} },
		"all of it":                  func(s *api.Segment) { *s = api.Segment{Src: 9, Acks: true} },
	} {
		s := syn(t)
		change(&s)
		if c, e := conn.Accept(3, s, 0); c != nil || e != api.ErrArg {
			t.Errorf("%s: error %d", name, e)
		}
	}
	// What else may be in it does no harm.
	for _, change := range []func(*api.Segment){
		func(s *api.Segment) { s.Opts = append([]api.Option{{Kind: api.Prio}}, s.Opts...) },
		func(s *api.Segment) { s.Data, s.Win, s.Seq = []byte("abc"), 9, math.MaxUint32 },
	} {
		s := syn(t)
		change(&s)
		c, e := conn.Accept(keys[1], s, 0)
		if e != api.OK {
			t.Fatal(e)
		}
		if l := c.Out(); all(l) != "1>0 SA capable:1" || l[0].Ack != s.Seq+1 {
			t.Error(l)
		}
	}
}

// P20.1, Mine

// other is s with one of its addresses, or ports, another one.
func other(s api.Segment) []api.Segment {
	var l []api.Segment
	for at := range 4 {
		for _, by := range []int{1, -1} {
			o := s
			*[]*int{&o.Src, &o.Dst, &o.SPort, &o.DPort}[at] += by
			l = append(l, o)
		}
	}
	o := segment.Reply(s)
	return append(l, o, api.Segment{Src: s.Dst, Dst: s.Src, SPort: s.SPort, DPort: s.DPort}, api.Segment{Src: s.Src, Dst: s.Dst, SPort: s.DPort, DPort: s.SPort})
}

func TestMine(t *testing.T) {
	d := joined(t)
	for k, mine := range [2][]api.Segment{
		{{Src: 1, Dst: 0, SPort: 80, DPort: 1025}, {Src: 1, Dst: 2, SPort: 80, DPort: 1025}},
		{{Src: 0, Dst: 1, SPort: 1025, DPort: 80}, {Src: 2, Dst: 1, SPort: 1025, DPort: 80}},
	} {
		for i, s := range mine {
			if !d.side[k].Mine(s) {
				t.Errorf("side %d: %s isn't its", k, words(s))
			}
			for _, o := range other(s) {
				is := segment.Same(o, mine[1-i])
				if d.side[k].Mine(o) != is {
					t.Errorf("side %d: %s: not %t", k, words(o), is)
				}
				if !is && d.side[k].Hear(o, 0) {
					t.Errorf("side %d hears %s", k, words(o))
				}
			}
		}
	}
}

// What isn't its own changes nothing, not even if it would end it all.
func TestHearWhatIsNotMine(t *testing.T) {
	d := open(t)
	d.writes(0, "abc")
	l := d.out(0)
	for _, s := range append(l, api.Segment{Src: 0, Dst: 1, SPort: 1025, DPort: 80, Rst: true, Opts: []api.Option{{Kind: api.Fast, Key: keys[1]}}}) {
		for _, o := range other(s) {
			if d.side[1].Hear(o, 5) {
				t.Error(words(o))
			}
		}
	}
	d.sends(1, "")
	d.is(1, api.COpen, api.OK, 1)
	d.fails(1, api.ErrWait)
	// It wasn't heard: at 40 the other side is asked.
	d.side[1].Tick(39)
	d.sends(1, "")
	d.side[1].Tick(40)
	d.sends(1, "1>0 A dss:1 w32")
}

// A leg that is dead, or done, is none any more.
func TestMineOfLegsThatAreOver(t *testing.T) {
	d := joined(t)
	first := api.Segment{Src: 1, Dst: 0, SPort: 80, DPort: 1025}
	d.writes(1, "abc")
	rst := d.out(1)[0]
	rst.Rst, rst.Opts, rst.Data = true, nil, nil
	if !d.side[0].Mine(rst) || !d.side[0].Hear(rst, 0) {
		t.Error("it isn't heard")
	}
	d.is(0, api.COpen, api.OK, 1)
	if d.side[0].Mine(first) || d.side[0].Hear(first, 0) || !d.side[0].Mine(api.Segment{Src: 1, Dst: 2, SPort: 80, DPort: 1025}) {
		t.Error("it is dead")
	}
	d.ok(d.side[0].Abort(0))
	if d.side[0].Mine(api.Segment{Src: 1, Dst: 2, SPort: 80, DPort: 1025}) {
		t.Error("it is closed")
	}
}

// In CClosed nothing is heard.
func TestHearInClosed(t *testing.T) {
	for _, how := range []func(d *duo){
		func(d *duo) { d.ok(d.side[0].Abort(0)) },
		func(d *duo) {
			d.ok(d.side[0].Shutdown(0))
			d.ok(d.side[1].Shutdown(0))
			d.flow()
			d.till(8)
		},
	} {
		d := open(t)
		how(d)
		d.out(0)
		was := stands(d.side[0])
		for _, s := range []api.Segment{
			{Src: 1, Dst: 0, SPort: 80, DPort: 1025, Acks: true},
			{Src: 1, Dst: 0, SPort: 80, DPort: 1025, Syn: true},
			{Src: 1, Dst: 0, SPort: 80, DPort: 1025, Rst: true, Opts: []api.Option{{Kind: api.Fast, Key: keys[0]}}},
		} {
			if d.side[0].Mine(s) || d.side[0].Hear(s, 9) || stands(d.side[0]) != was {
				t.Error(words(s), was, stands(d.side[0]))
			}
		}
		d.sends(0, "")
	}
}

// Opening

// The connection is open when its first leg is, on each side.
func TestOpening(t *testing.T) {
	d := begin(t)
	d.is(0, api.CInit, api.OK, 1)
	d.is(1, api.CInit, api.OK, 1)
	l := d.sends(1, "1>0 SA capable:1")
	d.hear(0, l[0])
	d.is(0, api.COpen, api.OK, 1)
	d.is(1, api.CInit, api.OK, 1)
	l = d.sends(0, "0>1 A dss:1 w32")
	d.hear(1, l[0])
	d.is(1, api.COpen, api.OK, 1)
	d.sends(1, "")
}

// What is lost of it is sent again, the options too.
func TestOpeningThroughLosses(t *testing.T) {
	d := begin(t)
	d.out(1)
	for _, tick := range []int{4, 12} {
		d.tick = tick
		d.side[0].Tick(tick)
		d.side[1].Tick(tick)
		d.hear(1, d.sends(0, hello)[0])
		if got := all(d.out(1)); got != "1>0 SA capable:1, 1>0 SA capable:1" {
			t.Error(got)
		}
	}
	d.tick = 28
	d.side[1].Tick(28)
	d.hear(0, d.sends(1, "1>0 SA capable:1")[0])
	// What tells that it came is lost; the Syn comes once more.
	d.sends(0, "0>1 A dss:1 w32")
	d.is(0, api.COpen, api.OK, 1)
	d.tick = 44
	d.side[1].Tick(44)
	d.hear(0, d.sends(1, "1>0 SA capable:1")[0])
	d.hear(1, d.sends(0, "0>1 A dss:1 w32")[0])
	d.is(1, api.COpen, api.OK, 1)
}

// Where that is lost, data open it, too.
func TestOpenedByData(t *testing.T) {
	d := begin(t)
	d.bring(1)
	d.out(0)
	d.writes(0, "abc")
	d.hear(1, d.sends(0, "0>1 A dss:1#1+3 w32 abc")[0])
	d.is(1, api.COpen, api.OK, 1)
	d.reads(1, 9, "abc")
}

// A Syn with Acks without Capable is refused: the other side is told so, and nothing else.
func TestOpeningWithoutCapable(t *testing.T) {
	for _, opts := range [][]api.Option{nil, {{Kind: api.Join}}, {{Kind: api.Dss, HasAck: true, Ack: 1}, {Kind: api.JoinBack}}} {
		d := begin(t)
		s := d.out(1)[0]
		s.Opts = opts
		if !d.side[0].Hear(s, 0) {
			t.Error("it isn't its own")
		}
		d.is(0, api.CClosed, api.ErrReset, 0)
		d.hear(1, d.sends(0, "0>1 AR")[0])
		d.is(1, api.CClosed, api.ErrRefused, 0)
	}
}

// What doesn't answer the Syn opens nothing.
func TestOpeningByOtherSegments(t *testing.T) {
	d := begin(t)
	good := d.out(1)[0]
	for _, change := range []func(*api.Segment){
		func(s *api.Segment) { s.Ack++ }, func(s *api.Segment) { s.Ack-- }, func(s *api.Segment) { s.Syn = false }, func(s *api.Segment) { s.Acks = false },
		func(s *api.Segment) { s.Rst, s.Syn = true, false; s.Ack++ },
	} {
		s := good
		change(&s)
		if !d.side[0].Hear(s, 0) {
			t.Error("it isn't its own")
		}
		d.is(0, api.CInit, api.OK, 1)
		d.sends(0, "")
	}
	d.hear(0, good)
	d.is(0, api.COpen, api.OK, 1)
}

// Nothing of data is heard ahead of being open.
func TestNothingIsHeardAheadOfBeingOpen(t *testing.T) {
	d := begin(t)
	d.bring(1)
	d.out(0)
	d.ok(d.side[0].Tell(2, 0))
	d.writes(0, "abc")
	d.ok(d.side[0].Shutdown(0))
	for _, s := range d.sends(0, "0>1 A dss:1 add:2 w32, 0>1 A dss:1#1+3 w32 abc, 0>1 A dss:1#4+0F w32") {
		s.Acks = false
		d.side[1].Hear(s, 0)
		s.Acks, s.Ack = true, s.Ack-1
		d.side[1].Hear(s, 0)
	}
	d.is(1, api.CInit, api.OK, 1)
	d.sends(1, "")
	d.fails(1, api.ErrWait)
	// It is open at once, but knows nothing of what it heard.
	d.side[0].Tick(2)
	d.hear(1, d.sends(0, "0>1 A dss:1#1+3 w32 abc")[0])
	d.is(1, api.COpen, api.OK, 1)
	if e := d.side[1].Join(1, 2, false, 0); e != api.ErrNone {
		t.Error(e)
	}
}

// Who dials, and hears nothing, tries as often as its flow does.
func TestDialAndHearNothing(t *testing.T) {
	d := begin(t)
	d.out(1)
	for tick := 1; tick <= 60; tick++ {
		for k, c := range d.side {
			c.Tick(tick)
			want := ""
			if tick == 4 || tick == 12 || tick == 28 || tick == 44 {
				want = []string{hello, "1>0 SA capable:1"}[k]
			}
			d.tick = tick
			d.sends(k, want)
			if tick < 60 {
				d.is(k, api.CInit, api.OK, 1)
			} else {
				d.is(k, api.CClosed, api.ErrTimeout, 0)
			}
		}
	}
	d.fails(0, api.ErrTimeout)
}

// R1, P20.3, nil

func TestNil(t *testing.T) {
	var c *conn.Conn
	for _, n := range edges {
		for _, s := range []api.Segment{{}, syn(t), {Rst: true}} {
			if c.Mine(s) || c.Hear(s, n) || c.Joined(s, n) != api.ErrNil {
				t.Error(n, s)
			}
		}
		for _, e := range []api.Errno{c.Join(n, n, true, n), c.Tell(n, n), c.Shutdown(n), c.Close(n), c.Abort(n), c.Set(n), c.Err()} {
			if e != api.ErrNil {
				t.Error(n, e)
			}
		}
		for _, b := range [][]byte{nil, []byte("abc")} {
			if m, e := c.Write(b, n); m != 0 || e != api.ErrNil {
				t.Error(m, e)
			}
		}
		if b, e := c.Read(n, n); len(b) != 0 || e != api.ErrNil {
			t.Error(b, e)
		}
		c.Tick(n)
	}
	if len(c.Out()) != 0 || c.State() != 0 || c.Token() != 0 || c.Legs() != 0 || c.Timers() != 0 || c.Over() {
		t.Error("of nil there is nothing")
	}
}
