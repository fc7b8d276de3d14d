package host_test

import (
	"fmt"
	"math"
	"testing"

	"ferrybridge/api"
	"ferrybridge/host"
	"ferrybridge/key"
	"ferrybridge/segment"
)

// joining is a Syn with Join, from a port at address 2 to port 80 at address 0.
func joining(from int, token uint32) api.Segment {
	return api.Segment{Src: 2, Dst: 0, SPort: from, DPort: 80, Syn: true, Seq: 300, Opts: []api.Option{{Kind: api.Join, Token: token, Nonce: 9, Addr: 2}}}
}

// A Syn with Capable for a port on which it listens makes a connection that waits.
func TestSyn(t *testing.T) {
	for _, more := range []func(s *api.Segment){
		func(s *api.Segment) {},
		func(s *api.Segment) { s.Seq = math.MaxUint32 },
		func(s *api.Segment) { s.Ack = 77 },
		func(s *api.Segment) { s.Opts = append(s.Opts, api.Option{Kind: api.Prio}) },
		func(s *api.Segment) { s.Opts = append([]api.Option{{Kind: api.Add, Addr: 3}}, s.Opts...) },
		func(s *api.Segment) { s.SPort = 0 },
		func(s *api.Segment) { s.SPort = 65535 },
		func(s *api.Segment) { s.SPort = 80 },
		func(s *api.Segment) { s.Dst = 1 },
		func(s *api.Segment) { s.Src, s.Dst = 3, 2 },
	} {
		h := listening(t, 1)
		h.Prime(7)
		s := syn(2000, 80)
		more(&s)
		h.Hear(s)
		l := sends(t, h, fmt.Sprintf("%d:80>%d:%d SA capable", s.Dst, s.Src, s.SPort))
		if l[0].Ack != s.Seq+1 || keyOf(t, l[0]) != 7 {
			t.Errorf("%+v", l)
		}
		tokens(t, h, live(7, 1))
		counts(t, h, 1, 1)
		handles(t, h)
		accepts(t, h, 1, api.OK)
		state(t, h, 1, api.CInit)
	}
	// The same one again is that connection's.
	h := listening(t, 1)
	h.Hear(syn(2000, 80))
	h.Hear(syn(2000, 80))
	counts(t, h, 1, 1)
	sends(t, h, "0:80>1:2000 SA capable, 0:80>1:2000 SA capable")
}

// Any port on which it listens, and none else.
func TestSynPorts(t *testing.T) {
	h := host.New(1)
	for _, port := range []int{0, 1, 80, 81, 65535} {
		resets(t, h, syn(2000, port))
	}
	for i, port := range []int{1, 80, 65535} {
		ok(t, h.Listen(port))
		h.Hear(syn(2000, port))
		sends(t, h, fmt.Sprintf("0:%d>1:2000 SA capable", port))
		for _, other := range []int{0, port - 1, 81} {
			resets(t, h, syn(2000, other))
		}
		if x, e := h.Accept(port); x != i+1 || e != api.OK {
			t.Error(x, e)
		}
	}
}

// What makes no connection, though it says something like that, is reset.
func TestNoSyn(t *testing.T) {
	h := listening(t, 1)
	for _, more := range []func(s *api.Segment){
		func(s *api.Segment) { s.Acks = true },
		func(s *api.Segment) { s.Acks, s.Ack = true, 5 },
		func(s *api.Segment) { s.Syn = false },
		func(s *api.Segment) { s.Syn, s.Acks = false, true },
		func(s *api.Segment) { s.Syn, s.Fin = false, true },
		func(s *api.Segment) { s.Opts = nil },
		func(s *api.Segment) { s.Opts = []api.Option{{Kind: api.Add}, {Kind: api.Prio}, {Kind: api.Dss}} },
		func(s *api.Segment) { s.Opts[0] = api.Option{Kind: api.Fast, Key: 7} },
		func(s *api.Segment) { s.Opts[0] = api.Option{Kind: api.JoinBack, Mac: 7} },
		func(s *api.Segment) { s.Opts[0] = api.Option{Kind: api.Join, Token: 7} },
	} {
		s := syn(2000, 80)
		more(&s)
		resets(t, h, s)
		s.Rst = true
		silent(t, h, s)
	}
	connects(t, h, 1)
}

// silent holds that h does nothing when it hears s.
func silent(t *testing.T, h *host.Host, s api.Segment) {
	t.Helper()
	was := about(h)
	h.Out()
	h.Hear(s)
	sends(t, h, "")
	if got := about(h); got != was {
		t.Errorf("%s: it was %s, and is %s", words(s), was, got)
	}
}

// All else is reset by a segment back, with its numbers.
func TestReset(t *testing.T) {
	for _, src := range []int{0, 3} {
		for _, ports := range [][2]int{{0, 0}, {65535, 1}, {80, 65535}} {
			for _, seq := range []uint32{0, 1, 1000, 1<<31 - 1, math.MaxUint32 - 9, math.MaxUint32 - 1, math.MaxUint32} {
				for flags := range 8 {
					for _, long := range []int{0, 1, 8} {
						h := listening(t, 1)
						s := api.Segment{
							Src: src, Dst: 2, SPort: ports[0], DPort: ports[1], Seq: seq, Ack: seq * 3, Win: 9,
							Syn: flags&1 > 0, Acks: flags&2 > 0, Fin: flags&4 > 0, Data: make([]byte, long),
							Opts: []api.Option{{Kind: api.Dss, HasAck: true, Ack: 3}},
						}
						resets(t, h, s)
						s.Rst = true
						silent(t, h, s)
					}
				}
			}
		}
	}
}

// What isn't right is nothing.
func TestNotRight(t *testing.T) {
	h := listening(t, 1)
	x := dials(t, h, 2000)
	for _, s := range []api.Segment{syn(3000, 80), syn(3000, 81), opening(2000, x), joining(2000, h.Tokens()[0].Token), {}} {
		for _, more := range []func(s *api.Segment){
			func(s *api.Segment) { s.Src = 4 },
			func(s *api.Segment) { s.Src = -1 },
			func(s *api.Segment) { s.Dst = math.MaxInt },
			func(s *api.Segment) { s.SPort = 65536 },
			func(s *api.Segment) { s.DPort += 65536 },
			func(s *api.Segment) { s.DPort = -1 },
			func(s *api.Segment) { s.Win = 65536 },
			func(s *api.Segment) { s.Win = -1 },
			func(s *api.Segment) { s.Data = make([]byte, 9) },
			func(s *api.Segment) { s.Opts = append(append([]api.Option{}, s.Opts...), make([]api.Option, 5)...) },
			func(s *api.Segment) { s.Opts = append(append([]api.Option{}, s.Opts...), api.Option{Kind: 12}) },
			func(s *api.Segment) {
				s.Opts = append(append([]api.Option{}, s.Opts...), api.Option{Kind: api.Add, Addr: 4})
			},
			func(s *api.Segment) {
				s.Opts = append(append([]api.Option{}, s.Opts...), api.Option{Kind: api.Prio, Key: 4})
			},
		} {
			wrong := s
			more(&wrong)
			silent(t, h, wrong)
		}
	}
}

// No more than MaxBacklog wait at one port.
func TestBacklog(t *testing.T) {
	h := listening(t, 1)
	ok(t, h.Listen(81))
	h.Prime(1, 2, 3, 4)
	h.Hear(syn(2000, 80))
	h.Hear(syn(2001, 80))
	for from := 2002; from < 2010; from++ {
		resets(t, h, syn(from, 80))
	}
	// At another one as many may; nothing was drawn for those that were refused.
	h.Hear(syn(2010, 81))
	counts(t, h, 3, 3)
	tokens(t, h, live(1, 1), live(2, 2), live(3, 3))
	// One that was accepted waits no longer.
	accepts(t, h, 1, api.OK)
	h.Hear(syn(2011, 80))
	counts(t, h, 4, 4)
	tokens(t, h, live(1, 1), live(2, 2), live(3, 3), live(4, 4))
	accepts(t, h, 2, api.OK)
	accepts(t, h, 4, api.OK)
	accepts(t, h, 0, api.ErrWait)
}

// One that is over waits no longer.
func TestOverWaitsNoLonger(t *testing.T) {
	for _, over := range []func(h *host.Host, seq uint32){
		func(h *host.Host, seq uint32) {
			h.Hear(api.Segment{Src: 1, SPort: 2000, DPort: 80, Rst: true, Seq: 101, Acks: true, Ack: seq})
		},
		func(h *host.Host, seq uint32) {
			h.Hear(api.Segment{Src: 1, SPort: 2000, DPort: 80, Rst: true, Seq: 5, Opts: []api.Option{{Kind: api.Fast, Key: 7}}})
		},
	} {
		h := listening(t, 1)
		h.Prime(7, 8, 9)
		seq := dials(t, h, 2000)
		h.Hear(syn(2001, 80))
		resets(t, h, syn(2002, 80))
		ticks(3, h)
		over(h, seq)
		counts(t, h, 1, 1)
		tokens(t, h, quarantined(7, 13), live(8, 2))
		handles(t, h)
		none(t, h, 1)
		h.Hear(syn(2002, 80))
		tokens(t, h, quarantined(7, 13), live(8, 2), live(9, 3))
		accepts(t, h, 2, api.OK)
		accepts(t, h, 3, api.OK)
		accepts(t, h, 0, api.ErrWait)
	}
}

// A Syn with Capable is reset where there are MaxConns connections.
func TestSynFull(t *testing.T) {
	h := listening(t, 1)
	for x := 1; x <= 4; x++ {
		refused(t, h, x)
	}
	ticks(10, h)
	refused(t, h, 5)
	h.Hear(syn(2000, 80))
	h.Out()
	counts(t, h, 6, 1)
	h.Prime(7)
	resets(t, h, syn(2001, 80))
	_, e := h.Connect(0, 1, 80)
	told(t, e, api.ErrFull)
	ok(t, h.Close(3))
	counts(t, h, 5, 1)
	h.Hear(syn(2001, 80))
	l := sends(t, h, "0:80>1:2001 SA capable")
	if keyOf(t, l[0]) != 7 {
		t.Error(l)
	}
	accepts(t, h, 6, api.OK)
	accepts(t, h, 7, api.OK)
}

// A Syn with Capable is reset where no token can be taken.
func TestSynTable(t *testing.T) {
	h := listening(t, 1)
	h.Prime(1, 2, 3, 4, 1, 1, 1, 1, 2, 2, 2, 9)
	for x := 1; x <= 4; x++ {
		connects(t, h, x)
	}
	// There is no room.
	resets(t, h, syn(2000, 80))
	ok(t, h.Abort(4))
	resets(t, h, syn(2000, 80))
	ticks(10, h)
	// There is, but four keys are none: 1, 1, 1, 1.
	resets(t, h, syn(2000, 80))
	h.Hear(syn(2000, 80))
	sends(t, h, "0:80>1:2000 SA capable")
	tokens(t, h, live(1, 1), live(2, 2), live(3, 3), live(9, 5))
	accepts(t, h, 5, api.OK)
}

// One that waited for Linger ticks is aborted, not ahead.
func TestWaitsForLinger(t *testing.T) {
	for _, begun := range []int{0, 1, 7, 100} {
		h := listening(t, 1)
		ticks(begun, h)
		h.Prime(7)
		dials(t, h, 2000)
		for range 29 {
			h.Tick()
			sends(t, h, "")
			counts(t, h, 1, 1)
		}
		tokens(t, h, live(7, 1))
		h.Tick()
		l := sends(t, h, "0:80>1:2000 AR fast")
		if l[0].Opts[0].Key != peerKey {
			t.Error(l)
		}
		counts(t, h, 0, 0)
		accepts(t, h, 0, api.ErrWait)
		tokens(t, h, quarantined(7, begun+40))
		ticks(9, h)
		tokens(t, h, quarantined(7, begun+40))
		ticks(1, h)
		tokens(t, h)
		none(t, h, 1)
	}
	// One that is accepted at the last tick stays.
	h := listening(t, 1)
	dials(t, h, 2000)
	ticks(29, h)
	accepts(t, h, 1, api.OK)
	ticks(10, h)
	handles(t, h, 1)
	state(t, h, 1, api.COpen)
	writes(t, h, 1, "abc")
}

// Each waits on its own.
func TestWaitApart(t *testing.T) {
	h := listening(t, 1)
	h.Hear(syn(2000, 80))
	ticks(10, h)
	h.Hear(syn(2001, 80))
	ticks(19, h)
	resets(t, h, syn(2002, 80))
	ticks(1, h)
	counts(t, h, 1, 1)
	h.Hear(syn(2002, 80))
	counts(t, h, 2, 2)
	ticks(9, h)
	counts(t, h, 2, 2)
	ticks(1, h)
	counts(t, h, 1, 1)
	accepts(t, h, 3, api.OK)
}

// What comes goes to the connection whose it is.
func TestMine(t *testing.T) {
	h := listening(t, 1)
	one, two := dials(t, h, 2000), dials(t, h, 2001)
	data := func(from int, ack uint32, text string) api.Segment {
		s := opening(from, ack)
		s.Opts[0].HasMap, s.Opts[0].Dsn, s.Opts[0].Len, s.Data = true, 1, len(text), []byte(text)
		return s
	}
	h.Hear(data(2001, two, "two"))
	sends(t, h, "0:80>1:2001 A dss")
	h.Hear(data(2000, one, "one"))
	sends(t, h, "0:80>1:2000 A dss")
	// From elsewhere it is nobody's.
	for _, more := range []func(s *api.Segment){
		func(s *api.Segment) { s.Src = 0 },
		func(s *api.Segment) { s.Dst = 1 },
		func(s *api.Segment) { s.SPort = 2002 },
		func(s *api.Segment) { s.DPort = 81 },
	} {
		s := data(2000, one, "one")
		more(&s)
		resets(t, h, s)
	}
	accepts(t, h, 1, api.OK)
	accepts(t, h, 2, api.OK)
	reads(t, h, 1, "one", api.OK)
	reads(t, h, 2, "two", api.OK)
	// Also of one whose handle was closed, till it is over.
	ok(t, h.Close(1))
	h.Out()
	h.Hear(data(2000, one, "one"))
	sends(t, h, "0:80>1:2000 A dss")
	ok(t, h.Abort(2))
	h.Out()
	resets(t, h, data(2001, two, "two"))
}

// Of two whose it is it goes to the one with the least handle.
func TestMineLeast(t *testing.T) {
	h := listening(t, 1)
	dials(t, h, 2000)
	accepts(t, h, 1, api.OK)
	// The same ports, but another address of this host: one more connection.
	s := syn(2000, 80)
	s.Dst = 2
	h.Hear(s)
	l := sends(t, h, "2:80>1:2000 SA capable")
	accepts(t, h, 2, api.OK)
	// Now the first one has a leg there, too.
	ok(t, h.Tell(1, 2))
	ok(t, h.Join(1, 2, 1, false))
	h.Out()
	counts(t, h, 2, 3)
	s = opening(2000, l[0].Seq+1)
	s.Dst = 2
	h.Hear(s)
	state(t, h, 2, api.CInit)
	ok(t, h.Abort(1))
	h.Hear(s)
	state(t, h, 2, api.COpen)
}

// A Syn with Join goes to the one whose token it has.
func TestJoin(t *testing.T) {
	h := listening(t, 1)
	h.Prime(7, 8)
	dials(t, h, 2000)
	dials(t, h, 2001)
	accepts(t, h, 1, api.OK)
	ticks(5, h)
	h.Hear(joining(2001, key.Token(8)))
	l := sends(t, h, "0:80>2:2001 SA joinback")
	if o := l[0].Opts[0]; o.Mac != key.Proof(8, peerKey, o.Nonce, 9) || l[0].Ack != 301 {
		t.Error(l)
	}
	counts(t, h, 2, 3)
	// Its time goes on from the host's tick: it is sent again 4 ticks later.
	for _, want := range []string{"", "", "", "0:80>2:2001 SA joinback"} {
		h.Tick()
		sends(t, h, want)
	}
	// Once more it is that leg's.
	h.Hear(joining(2001, key.Token(8)))
	sends(t, h, "0:80>2:2001 SA joinback")
	// Of nobody's token, or of another one's, or with Acks.
	for _, s := range []api.Segment{
		joining(2000, key.Token(9)), joining(2000, 0), joining(2000, key.Token(8)), joining(2002, key.Token(7)),
	} {
		resets(t, h, s)
		s.Rst = true
		silent(t, h, s)
	}
	s := joining(2000, key.Token(7))
	s.Acks = true
	resets(t, h, s)
	s = joining(2000, key.Token(7))
	s.Syn = false
	resets(t, h, s)
	// What the connection refuses is reset: it has no such address of its own.
	s = joining(2000, key.Token(7))
	s.Dst = 3
	resets(t, h, s)
	h.Hear(joining(2000, key.Token(7)))
	sends(t, h, "0:80>2:2000 SA joinback")
	counts(t, h, 2, 4)
}

// A token that was freed is nobody's.
func TestJoinStale(t *testing.T) {
	h := listening(t, 1)
	h.Prime(7)
	dials(t, h, 2000)
	accepts(t, h, 1, api.OK)
	h.Hear(api.Segment{Src: 1, SPort: 2000, DPort: 80, Rst: true, Opts: []api.Option{{Kind: api.Fast, Key: 7}}})
	state(t, h, 1, api.CClosed)
	resets(t, h, joining(2000, key.Token(7)))
	ticks(10, h)
	resets(t, h, joining(2000, key.Token(7)))
	// Given again it is the other one's.
	h.Prime(7)
	dials(t, h, 2001)
	resets(t, h, joining(2000, key.Token(7)))
	h.Hear(joining(2001, key.Token(7)))
	sends(t, h, "0:80>2:2001 SA joinback")
	counts(t, h, 2, 2)
}

// A Syn with Join goes by that, not by its Capable.
func TestJoinAheadOfCapable(t *testing.T) {
	h := listening(t, 1)
	h.Prime(7)
	dials(t, h, 2000)
	for _, ahead := range []bool{false, true} {
		s := joining(2000, 5)
		if ahead {
			s.Opts = append(s.Opts, syn(2000, 80).Opts...)
		} else {
			s.Opts = append(syn(2000, 80).Opts, s.Opts...)
		}
		resets(t, h, s)
	}
	s := joining(2000, key.Token(7))
	s.Opts = append(syn(2000, 80).Opts, s.Opts...)
	h.Hear(s)
	sends(t, h, "0:80>2:2000 SA joinback")
	counts(t, h, 1, 2)
}

// A wrong key, token or proof changes nothing but the leg that it is for.
func TestWrongProof(t *testing.T) {
	h := listening(t, 1)
	h.Prime(7)
	seq := dials(t, h, 2000)
	silent(t, h, api.Segment{Src: 1, SPort: 2000, DPort: 80, Rst: true, Seq: 101, Acks: true, Ack: seq, Opts: []api.Option{{Kind: api.Fast, Key: 8}}})
	h.Hear(joining(2000, key.Token(7)))
	l := sends(t, h, "0:80>2:2000 SA joinback")
	counts(t, h, 1, 2)
	h.Hear(api.Segment{Src: 2, SPort: 2000, DPort: 80, Seq: 301, Ack: l[0].Seq + 1, Acks: true, Opts: []api.Option{{Kind: api.JoinEnd, Mac: 5}}})
	sends(t, h, "0:80>2:2000 AR")
	counts(t, h, 1, 1)
	accepts(t, h, 1, api.OK)
	state(t, h, 1, api.COpen)
}

// What was reset ends: no two hosts reset one another again and again.
func TestResetsEnd(t *testing.T) {
	a, b := host.New(1), host.New(2)
	a.Hear(opening(2000, 5))
	went := flow(t, a, b)
	if len(went) != 1 || !segment.Same(went[0], reset(opening(2000, 5))) {
		t.Error(all(went))
	}
	connects(t, a, 1)
	if got := all(flow(t, a, b)); got != "0:1025>1:80 S capable, 1:80>0:1025 AR" {
		t.Error(got)
	}
	reads(t, a, 1, "", api.ErrRefused)
	state(t, a, 1, api.CClosed)
}
