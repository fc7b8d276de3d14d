package conn_test

import (
	"math"
	"slices"
	"testing"

	"ferrybridge/api"
	"ferrybridge/conn"
	"ferrybridge/key"
	"ferrybridge/option"
	"ferrybridge/segment"
)

// told is two sides that are open, of which the first one told its address 2, so that the other one knows it.
func told(t *testing.T) *duo {
	t.Helper()
	d := open(t)
	d.ok(d.side[0].Tell(2, 0))
	d.flow()
	return d
}

// dials is one more leg that side k dialed, of which the Syn is told.
func (d *duo) dials(k int, backup bool) api.Segment {
	d.t.Helper()
	own, other := 2, 1
	if k == 1 {
		own, other = 1, 2
	}
	d.ok(d.side[k].Join(own, other, backup, d.tick))
	l := d.out(k)
	if len(l) != 1 {
		d.t.Fatal(all(l))
	}
	return l[0]
}

// find is the option of that kind, which must be there.
func (d *duo) find(s api.Segment, kind int) api.Option {
	d.t.Helper()
	o, is := option.Find(s.Opts, kind)
	if !is {
		d.t.Fatal(words(s))
	}
	return o
}

// Joining, from either side: what each sends, and what proves the keys.
func TestJoining(t *testing.T) {
	for k := range 2 {
		for _, backup := range []bool{false, true} {
			d := told(t)
			s := d.dials(k, backup)
			join := d.find(s, api.Join)
			way := [2]string{"2>1 ", "1>2 "}
			want := way[k] + "S join:" + [2]string{"2", "1"}[k] + map[bool]string{true: "b"}[backup]
			if words(s) != want || join.Token != d.side[1-k].Token() || join.Token != key.Token(keys[1-k]) {
				t.Errorf("%q, not %q", words(s), want)
			}
			d.is(k, api.COpen, api.OK, 2)
			d.is(1-k, api.COpen, api.OK, 1)

			d.ok(d.side[1-k].Joined(s, 0))
			d.is(1-k, api.COpen, api.OK, 2)
			answer := d.sends(1-k, way[1-k]+"SA joinback")[0]
			back := d.find(answer, api.JoinBack)
			if back.Mac != key.Proof(keys[1-k], keys[k], back.Nonce, join.Nonce) {
				t.Errorf("%x proves nothing", back.Mac)
			}

			d.hear(k, answer)
			end := d.sends(k, way[k]+"A dss:1 joinend w32")[0]
			if o := d.find(end, api.JoinEnd); o.Mac != key.Proof(keys[k], keys[1-k], join.Nonce, back.Nonce) {
				t.Errorf("%x proves nothing", o.Mac)
			}

			// What it is told goes with all else on it, but not with what the other side sends.
			d.hear(1-k, end)
			d.sends(1-k, "")
			d.ok(d.side[k].Shutdown(0))
			d.hear(1-k, d.sends(k, way1(k)+"A dss:1#1+0F w32, "+way[k]+"A dss:1#1+0F joinend w32")[1])
			d.sends(1-k, way[1-k]+"A dss:2 w32")
			d.ok(d.side[k].Abort(0))
			d.sends(k, way1(k)+"AR fast:"+whose(keys[1-k])+", "+way[k]+"AR fast:"+whose(keys[1-k])+" joinend")
		}
	}
}

// way1 is the first leg, from side k.
func way1(k int) string { return [2]string{"0>1 ", "1>0 "}[k] }

// No two legs have the same nonce, or begin at the same place, of one side, nor of two connections.
func TestNoncesDiffer(t *testing.T) {
	nonces, seqs := map[uint32]bool{}, map[uint32]bool{}
	many := 0
	for range 2 {
		d := told(t)
		d.ok(d.side[1].Tell(3, 0))
		d.flow()
		for _, pair := range [][2]int{{0, 3}, {2, 1}, {2, 3}} {
			d.ok(d.side[0].Join(pair[0], pair[1], false, 0))
			s := d.out(0)[0]
			d.ok(d.side[1].Joined(s, 0))
			a := d.out(1)[0]
			nonces[d.find(s, api.Join).Nonce], nonces[d.find(a, api.JoinBack).Nonce] = true, true
			seqs[s.Seq], seqs[a.Seq] = true, true
			many += 2
		}
	}
	// The two connections are the same, and so are their numbers.
	if len(nonces) != many/2 || len(seqs) != many/2 {
		t.Error(len(nonces), len(seqs), many)
	}
}

// The same pair, joined anew, begins elsewhere.
func TestJoinedAnewWithOtherNonces(t *testing.T) {
	d := told(t)
	s := d.dials(0, false)
	d.ok(d.side[1].Joined(s, 0))
	a := d.out(1)[0]
	bad := a
	bad.Opts = nil
	d.hear(0, bad)
	d.hear(1, d.sends(0, "2>1 AR")[0])
	d.is(0, api.COpen, api.OK, 1)
	d.is(1, api.COpen, api.OK, 1)
	again := d.dials(0, false)
	if again.Seq == s.Seq || d.find(again, api.Join).Nonce == d.find(s, api.Join).Nonce {
		t.Error("it is the same once more")
	}
	// What answers the first one doesn't answer this one.
	d.hear(0, a)
	d.is(0, api.COpen, api.OK, 2)
	d.sends(0, "")
	d.ok(d.side[1].Joined(again, 0))
	d.flow()
	d.is(0, api.COpen, api.OK, 2)
	d.is(1, api.COpen, api.OK, 2)
}

// A proof that is wrong, or lacks, in what answers: the leg is killed, and nothing else changes.
func TestJoinBackThatProvesNothing(t *testing.T) {
	for name, change := range map[string]func(*api.Segment){
		"another proof": func(s *api.Segment) { s.Opts[0].Mac++ },
		"another nonce": func(s *api.Segment) { s.Opts[0].Nonce++ },
		"none":          func(s *api.Segment) { s.Opts = nil },
		"another kind":  func(s *api.Segment) { s.Opts[0] = api.Option{Kind: api.JoinEnd, Mac: s.Opts[0].Mac} },
		"a Capable":     func(s *api.Segment) { s.Opts = []api.Option{{Kind: api.Capable, Key: keys[1]}} },
		"its own proof": func(s *api.Segment) {
			s.Opts[0].Mac = key.Proof(keys[0], keys[1], 1, s.Opts[0].Nonce)
		},
	} {
		d := told(t)
		d.ok(d.side[1].Joined(d.dials(0, false), 0))
		s := d.out(1)[0]
		s.Opts = slices.Clone(s.Opts)
		change(&s)
		if !d.side[0].Hear(s, 0) {
			t.Errorf("%s: it isn't its own", name)
		}
		d.is(0, api.COpen, api.OK, 1)
		d.sends(0, "2>1 AR")
		if d.side[0].Mine(s) {
			t.Errorf("%s: the leg is there", name)
		}
		// All else goes on.
		d.writes(0, "abc")
		d.hear(1, d.sends(0, "0>1 A dss:1#1+3 w32 abc")[0])
		d.reads(1, 9, "abc")
	}
}

// A proof that is wrong, or lacks, in what opens the leg: nothing of it is heard.
func TestJoinEndThatProvesNothing(t *testing.T) {
	for name, change := range map[string]func(*api.Option){
		"another proof": func(o *api.Option) { o.Mac++ },
		"none":          func(o *api.Option) { *o = api.Option{Kind: api.Prio} },
		"another kind":  func(o *api.Option) { *o = api.Option{Kind: api.JoinBack, Mac: o.Mac} },
	} {
		d := told(t)
		d.ok(d.side[1].Joined(d.dials(0, false), 0))
		d.hear(0, d.out(1)[0])
		d.out(0)
		// It is sent data, the end, and an address, on the leg that isn't open there.
		d.ok(d.side[0].Set(api.PickAll))
		d.writes(1, "xyz")
		d.bring(1)
		d.writes(0, "abc")
		d.ok(d.side[0].Tell(3, 0))
		for _, s := range d.out(0) {
			if s.Src != 2 || len(s.Data) == 0 {
				continue
			}
			place := slices.IndexFunc(s.Opts, func(o api.Option) bool { return o.Kind == api.JoinEnd })
			change(&s.Opts[place])
			s.Opts = append(s.Opts, api.Option{Kind: api.Add, Addr: 3})
			s.Opts[0].Fin = true
			if !d.side[1].Hear(s, 0) {
				t.Errorf("%s: it isn't its own", name)
			}
		}
		d.sends(1, "1>2 AR")
		d.is(1, api.COpen, api.OK, 1)
		d.fails(1, api.ErrWait)
		if e := d.side[1].Join(1, 3, false, 0); e != api.ErrNone {
			t.Errorf("%s: it heard of the address: %d", name, e)
		}
		// Nor did it hear that its own data came: they are sent once more.
		d.side[1].Tick(2)
		d.sends(1, "1>0 A dss:1#1+3 w32 xyz")
	}
}

// The proof must be in what opens the leg; behind it, it may lack.
func TestJoinEndOnlyOpens(t *testing.T) {
	d := joined(t)
	d.ok(d.side[0].Set(api.PickAll))
	d.writes(0, "abc")
	l := d.sends(0, "0>1 A dss:1#1+3 w32 abc, 2>1 A dss:1#1+3 joinend w32 abc")
	l[1].Opts = l[1].Opts[:1]
	d.hear(1, l[1])
	d.is(1, api.COpen, api.OK, 2)
	d.reads(1, 9, "abc")
}

// Ahead of being open nothing but what opens it is heard of a leg, and no data are sent on it.
func TestNothingIsHeardOfALegAheadOfItsProof(t *testing.T) {
	d := told(t)
	d.ok(d.side[1].Joined(d.dials(0, false), 0))
	answer := d.out(1)[0]
	d.hear(0, answer)
	end := d.out(0)[0]
	d.writes(1, "xyz")
	d.sends(1, "1>0 A dss:1#1+3 w32 xyz")
	for _, change := range []func(*api.Segment){
		func(s *api.Segment) { s.Acks = false },
		func(s *api.Segment) { s.Ack++ },
		func(s *api.Segment) { s.Ack-- },
	} {
		s := end
		s.Data = []byte("abc")
		s.Opts = []api.Option{end.Opts[1], {Kind: api.Add, Addr: 3}, {Kind: api.Dss, HasAck: true, Ack: 4, HasMap: true, Dsn: 1, Len: 3, Fin: true}}
		change(&s)
		d.side[1].Hear(s, 30)
		d.is(1, api.COpen, api.OK, 2)
		d.sends(1, "")
		d.fails(1, api.ErrWait)
		if e := d.side[1].Join(1, 3, false, 0); e != api.ErrNone {
			t.Error(e)
		}
	}
	// Nor is the other side heard by that: it is asked at 40, on the leg that is open.
	d.alone(1, 39)
	d.tick = 40
	d.side[1].Tick(40)
	if got := all(d.out(1)); got != "1>0 A dss:1 w32" {
		t.Error(got)
	}
	d.hear(1, end)
	d.is(1, api.COpen, api.OK, 2)
}

func TestNoDataAheadOfBeingOpen(t *testing.T) {
	for _, how := range []int{api.PickQuick, api.PickTurn, api.PickAll} {
		d := told(t)
		for k := range 2 {
			d.ok(d.side[k].Set(how))
		}
		d.ok(d.side[1].Joined(d.dials(0, false), 0))
		for k := range 2 {
			d.writes(k, "abcdefghABCDEFGH")
			for _, s := range d.out(k) {
				if s.Src == 2 || s.Dst == 2 && !s.Syn {
					t.Errorf("how %d: side %d sends %s", how, k, words(s))
				}
			}
		}
	}
}

// P20.1, Joined

func TestJoinedRefuses(t *testing.T) {
	for name, change := range map[string]func(*api.Segment){
		"no Syn":                 func(s *api.Segment) { s.Syn = false },
		"Acks":                   func(s *api.Segment) { s.Acks = true },
		"no Join":                func(s *api.Segment) { s.Opts = nil },
		"Capable":                func(s *api.Segment) { s.Opts = []api.Option{{Kind: api.Capable, Key: keys[0]}} },
		"another token":          func(s *api.Segment) { s.Opts[0].Token++ },
		"its own token":          func(s *api.Segment) { s.Opts[0].Token = key.Token(keys[0]) },
		"no token":               func(s *api.Segment) { s.Opts[0].Token = 0 },
		"another port":           func(s *api.Segment) { s.SPort++ },
		"another port of its":    func(s *api.Segment) { s.DPort++ },
		"an address above":       func(s *api.Segment) { s.Src = 4 },
		"an address below":       func(s *api.Segment) { s.Src = -1 },
		"its address above":      func(s *api.Segment) { s.Dst = 4 },
		"its address below":      func(s *api.Segment) { s.Dst = math.MinInt },
		"nothing":                func(s *api.Segment) { *s = api.Segment{} },
		"a token and an address": func(s *api.Segment) { s.Opts[0].Token++; s.Dst = 3 },
	} {
		d := told(t)
		s := d.dials(0, false)
		change(&s)
		if e := d.side[1].Joined(s, 0); e != api.ErrArg {
			t.Errorf("%s: error %d", name, e)
		}
		d.sends(1, "")
		d.is(1, api.COpen, api.OK, 1)
	}
}

// The paths' errors, which change nothing: an address that is refused wasn't told.
func TestJoinedByPaths(t *testing.T) {
	d := open(t)
	join := func(own, other int) api.Segment {
		return api.Segment{Src: other, Dst: own, SPort: 1025, DPort: 80, Syn: true, Seq: 9, Opts: []api.Option{{Kind: api.Join, Token: d.side[1].Token(), Nonce: 5, Addr: other}}}
	}
	b := d.side[1]
	// Of its own only 1 was told.
	for _, own := range []int{0, 2, 3} {
		for other := range 4 {
			d.told(b.Joined(join(own, other), 0), api.ErrNone)
		}
	}
	d.told(b.Join(1, 2, false, 0), api.ErrNone)
	d.told(b.Joined(join(1, 0), 0), api.ErrTwice)
	d.is(1, api.COpen, api.OK, 1)
	d.sends(1, "")
	d.ok(b.Joined(join(1, 2), 0))
	d.told(b.Joined(join(1, 2), 0), api.ErrTwice)
	d.told(b.Join(1, 2, false, 0), api.ErrTwice)
	d.is(1, api.COpen, api.OK, 2)
	d.sends(1, "1>2 SA joinback")
	// With it the other address was told.
	d.ok(b.Tell(3, 0))
	d.out(1)
	d.ok(b.Join(3, 2, false, 0))
	d.sends(1, "3>2 S join:3")
}

// As many legs as there may be, and one more.
func TestMaxFlows(t *testing.T) {
	d := open(t)
	a, b := d.side[0], d.side[1]
	for _, own := range []int{1, 2} {
		d.ok(a.Tell(own, 0))
	}
	for _, own := range []int{0, 2} {
		d.ok(b.Tell(own, 0))
	}
	d.flow()
	many := 1
	for own := range 3 {
		for other := range 3 {
			if own == 0 && other == 1 {
				d.told(a.Join(own, other, false, 0), api.ErrTwice)
				continue
			}
			if many == 8 {
				d.told(a.Join(own, other, false, 0), api.ErrFull)
				// One that is none is told ahead of that.
				d.told(a.Join(own, 3, false, 0), api.ErrNone)
				d.told(a.Join(own, 4, false, 0), api.ErrArg)
				d.told(a.Join(0, 1, false, 0), api.ErrTwice)
				continue
			}
			d.ok(a.Join(own, other, false, 0))
			many++
		}
	}
	d.flow()
	d.is(0, api.COpen, api.OK, 8)
	d.is(1, api.COpen, api.OK, 8)
	join := api.Segment{Src: 3, Dst: 1, SPort: 1025, DPort: 80, Syn: true, Opts: []api.Option{{Kind: api.Join, Token: b.Token(), Addr: 3}}}
	d.told(b.Joined(join, 0), api.ErrFull)
	// One that has a flow is told ahead of that.
	join.Src = 0
	d.told(b.Joined(join, 0), api.ErrTwice)
	join.Src, join.Dst = 3, 3
	d.told(b.Joined(join, 0), api.ErrNone)
	d.told(b.Join(1, 3, false, 0), api.ErrNone)
	d.is(1, api.COpen, api.OK, 8)
	d.sends(1, "")
	// All of them carry data.
	d.ok(a.Set(api.PickAll))
	d.writes(0, "abc")
	if l := d.out(0); len(l) != 8 {
		t.Error(all(l))
	}
	// Where one is gone, there may be one more.
	x := api.Segment{Src: 1, Dst: 0, SPort: 80, DPort: 1025}
	kill(d, 0, x)
	d.is(0, api.COpen, api.OK, 7)
	d.ok(a.Join(2, 2, false, 0))
	d.is(0, api.COpen, api.OK, 8)
}

// kill lets side k hear data without a map on a leg, by which that is killed.
func kill(d *duo, k int, x api.Segment) {
	d.t.Helper()
	d.side[1-k].Set(api.PickAll)
	d.writes(1-k, "abc")
	for _, s := range d.side[1-k].Out() {
		if s.Src == x.Src && s.Dst == x.Dst {
			s.Opts = nil
			if !d.side[k].Hear(s, d.tick) {
				d.t.Error(words(s))
			}
		}
	}
	d.out(k)
}

// P20.1, Join

func TestJoinByPaths(t *testing.T) {
	d := told(t)
	a := d.side[0]
	for _, n := range edges {
		if 0 <= n && n < 4 {
			continue
		}
		d.told(a.Join(n, 1, false, 0), api.ErrArg)
		d.told(a.Join(2, n, false, 0), api.ErrArg)
	}
	for own := range 4 {
		for other := range 4 {
			want := api.ErrNone
			if own == 0 && other == 1 {
				want = api.ErrTwice
			} else if own == 2 && other == 1 {
				continue
			}
			d.told(a.Join(own, other, true, 0), want)
		}
	}
	d.is(0, api.COpen, api.OK, 1)
	d.sends(0, "")
	d.ok(a.Join(2, 1, true, 0))
	d.told(a.Join(2, 1, true, 0), api.ErrTwice)
	d.sends(0, "2>1 S join:2b")
}

// Joined and Join in each state.
func TestJoiningInEachState(t *testing.T) {
	for state := api.CInit; state <= api.CClosed; state++ {
		may := state >= api.COpen && state <= api.CLastAck
		d := bring(t, state)
		c := d.side[0]
		legs := c.Legs()
		if !may {
			// It is named ahead of the paths' errors.
			d.told(c.Join(9, 9, false, d.tick), api.ErrState)
			d.told(c.Join(0, 1, false, d.tick), api.ErrState)
		}
		s := api.Segment{Src: 3, Dst: 0, SPort: 80, DPort: 1025, Syn: true, Opts: []api.Option{{Kind: api.Join, Token: c.Token(), Addr: 3}}}
		wrong := s
		wrong.Opts = []api.Option{{Kind: api.Join, Token: c.Token() + 1, Addr: 3}}
		d.told(c.Joined(wrong, d.tick), api.ErrArg)
		if e := c.Joined(s, d.tick); may != (e == api.OK) || !may && e != api.ErrState {
			t.Errorf("%s: %d", states[state], e)
		}
		s.Src = 1
		if e := c.Joined(s, d.tick); may != (e == api.ErrTwice) || !may && e != api.ErrState {
			t.Errorf("%s: %d", states[state], e)
		}
		if may {
			d.sends(0, "0>3 SA joinback")
			legs++
		}
		if c.Legs() != legs || c.State() != state {
			t.Errorf("%s: %s", states[state], stands(c))
		}
		e := c.Tell(2, d.tick)
		d.ok(e)
		d.out(0)
		if e := c.Join(2, 3, false, d.tick); may != (e == api.OK) || !may && e != api.ErrState {
			t.Errorf("%s: %d", states[state], e)
		}
	}
}

// A leg that joins and hears nothing is given up; nothing else comes of it.
func TestJoinAndHearNothing(t *testing.T) {
	d := told(t)
	syn := d.dials(0, false)
	d.ok(d.side[1].Joined(syn, 0))
	for d.tick < 60 {
		d.tick++
		for k, c := range d.side {
			c.Tick(d.tick)
			for _, s := range c.Out() {
				d.check(k, s)
				if s.Src == 2 || s.Dst == 2 {
					if want := [2]string{"2>1 S join:2", "1>2 SA joinback"}[k]; words(s) != want {
						t.Error(words(s))
					}
				} else {
					d.way[1-k] = append(d.way[1-k], s)
				}
			}
		}
		d.flowOnFirst()
	}
	for k := range 2 {
		d.is(k, api.COpen, api.OK, 1)
	}
	d.told(d.side[0].Join(2, 1, false, 60), api.OK)
}

// flowOnFirst lets all come but what goes from 2, or to it.
func (d *duo) flowOnFirst() {
	for range 100 {
		for k, c := range d.side {
			for _, s := range c.Out() {
				if s.Src != 2 && s.Dst != 2 {
					d.way[1-k] = append(d.way[1-k], s)
				}
			}
		}
		for k := range d.way {
			l := d.way[k]
			d.way[k] = nil
			for _, s := range l {
				d.hear(k, s)
			}
		}
	}
}

// P20.1, Tell

func TestTell(t *testing.T) {
	d := open(t)
	a, b := d.side[0], d.side[1]
	for _, n := range edges {
		if n < 0 || n > 3 {
			d.told(a.Tell(n, 0), api.ErrArg)
		}
	}
	d.told(a.Tell(0, 0), api.ErrTwice)
	d.sends(0, "")
	d.told(b.Join(1, 3, false, 0), api.ErrNone)
	d.ok(a.Tell(3, 0))
	d.told(a.Tell(3, 0), api.ErrTwice)
	l := d.sends(0, "0>1 A dss:1 add:3 w32")
	d.told(b.Join(1, 3, false, 0), api.ErrNone)
	d.hear(1, l[0])
	d.sends(1, "")
	d.told(b.Join(3, 3, false, 0), api.ErrNone)
	d.ok(b.Join(1, 3, false, 0))
	d.sends(1, "1>3 S join:1")
	// Of those that may not be nothing is known.
	l[0].Opts[1].Addr = 4
	d.hear(1, l[0])
	d.told(b.Join(1, 4, false, 0), api.ErrArg)
}

// It is told once, on the first leg that is open.
func TestTellOnTheFirstOpenLeg(t *testing.T) {
	d := joined(t)
	d.ok(d.side[0].Tell(3, 0))
	d.sends(0, "0>1 A dss:1 add:3 w32")
	d = joined(t)
	kill(d, 0, api.Segment{Src: 1, Dst: 0, SPort: 80, DPort: 1025})
	d.ok(d.side[0].Tell(3, 0))
	d.sends(0, "2>1 A dss:1 add:3 joinend w32")
	// One that isn't open yet isn't one.
	d = joined(t)
	d.ok(d.side[1].Tell(3, 0))
	d.flow()
	d.ok(d.side[0].Join(0, 3, false, 0))
	d.ok(d.side[0].Tell(1, 0))
	d.ok(d.side[0].Join(1, 1, false, 0))
	for _, s := range d.out(0) {
		if s.Src == 1 {
			d.hear(1, s)
		}
	}
	d.hear(0, d.out(1)[0])
	d.ok(d.side[0].Set(api.PickAll))
	d.writes(0, "abc")
	for _, s := range d.out(0) {
		if s.Src != 1 {
			d.hear(0, api.Segment{Src: s.Dst, Dst: s.Src, SPort: 80, DPort: 1025, Rst: true, Seq: s.Ack})
		}
	}
	d.out(0)
	d.is(0, api.COpen, api.OK, 2)
	d.ok(d.side[0].Tell(3, 0))
	d.sends(0, "1>1 A dss:1 add:3 joinend w32")
	d = begin(t)
	d.ok(d.side[0].Tell(3, 0))
	d.ok(d.side[1].Tell(3, 0))
	d.sends(0, "")
	d.sends(1, "1>0 SA capable:1")
}

// The address is known also where the segment isn't next.
func TestAddIsHeardWhereverItIs(t *testing.T) {
	d := open(t)
	d.writes(0, "abc")
	d.out(0)
	d.ok(d.side[0].Tell(2, 0))
	d.hear(1, d.sends(0, "0>1 A dss:1 add:2 w32")[0])
	d.ok(d.side[1].Join(1, 2, false, 0))
}

// A connection of which the other key is the same as its own, or 0, joins likewise.
func TestJoiningWithAnyKeys(t *testing.T) {
	for _, pair := range [][2]uint64{{0, 0}, {7, 7}, {0, math.MaxUint64}, {1 << 63, 0}} {
		a, _ := conn.Dial(pair[0], conn.Ends{Own: 0, Other: 1, OwnPort: ports[0], OtherPort: ports[1]}, 0)
		b, _ := conn.Accept(pair[1], a.Out()[0], 0)
		d := &duo{t: t, side: [2]*conn.Conn{a, b}}
		d.flow()
		d.ok(a.Tell(2, 0))
		d.ok(a.Join(2, 1, false, 0))
		d.flow()
		d.is(0, api.COpen, api.OK, 2)
		d.is(1, api.COpen, api.OK, 2)
	}
}

// The addresses of a Syn with Join are the segment's.
func TestReplyOfAJoin(t *testing.T) {
	d := told(t)
	s := d.dials(0, false)
	d.ok(d.side[1].Joined(s, 0))
	want := segment.Reply(s)
	got := d.out(1)[0]
	if got.Src != want.Src || got.Dst != want.Dst || got.Ack != s.Seq+1 {
		t.Errorf("%+v", got)
	}
}
