package flow_test

import (
	"math"
	"testing"

	"ferrybridge/api"
	"ferrybridge/flow"
)

// The chapter's example

func TestExample(t *testing.T) {
	f := flow.Dial(5, 0)
	l := f.Out()
	if len(l) != 1 || !same(l[0].Piece, api.Piece{Seq: 5, Syn: true}) || l[0].Ack != 0 || l[0].Acks || l[0].Rst {
		t.Error(l)
	}
	if at, has := f.At(); at != 4 || !has {
		t.Error(at, has)
	}
}

// P14.1, Dial and Answer

func TestDial(t *testing.T) {
	anywhere(func(x, y uint32) {
		for _, tick := range []int{-9, 0, 1, 1 << 40} {
			f := place{flow.Dial(x, tick), x, y}
			f.is(t, "Dial", api.Heard{}, "; S@0; synsent "+num(tick+4)+"; S@0")
			if f.Smooth() != 32 {
				t.Error(f.Smooth())
			}
		}
	})
}

func TestAnswer(t *testing.T) {
	anywhere(func(x, y uint32) {
		for _, tick := range []int{-9, 0, 1, 1 << 40} {
			for _, words := range []string{"S @0", "S F abc @0 A7", "@0", "R @0"} {
				f := place{nil, x, y}
				f.Flow = flow.Answer(x, f.seg(words), tick)
				f.is(t, "Answer to "+words, api.Heard{}, "; S@0 a1; synrcvd "+num(tick+4)+"; S@0")
				if f.Smooth() != 32 {
					t.Error(f.Smooth())
				}
			}
		}
	})
}

// Two that open: who dials, and who answers.
func TestOpening(t *testing.T) {
	anywhere(func(x, y uint32) {
		a := place{flow.Dial(x, 0), x, y}
		s := api.Segment{Seq: a.Out()[0].Piece.Seq, Syn: true}
		b := place{flow.Answer(y, s, 1), y, x}
		o := b.Out()[0]
		a.is(t, "the answer", a.Hear(api.Segment{Seq: o.Piece.Seq, Syn: true, Ack: o.Ack, Acks: o.Acks}, 2), "opened -S@0; @1 a1; open -; none")
		b.is(t, "what answers that", b.hears("@1 A1", 3), "opened fresh -S@0; ; open -; none")
		if a.Smooth() != 16 || b.Smooth() != 16 {
			t.Error(a.Smooth(), b.Smooth())
		}
	})
}

// P14.1, Send

// sendable are the states in which data may be sent, and Fins, with where a Fin leads.
var sendable = map[int]int{api.FOpen: api.FFin1, api.FCloseWait: api.FLastAck}

func TestSendInEachState(t *testing.T) {
	anywhere(func(x, y uint32) {
		for state := api.FSynSent; state <= api.FDead; state++ {
			f := bring(state, x, y)
			stood, left := f.stands(), f.pieces(f.Left())
			// The state's error is named ahead of the argument's.
			for _, data := range [][]byte{nil, {}, make([]byte, 9), make([]byte, 1000)} {
				want := api.ErrArg
				if sendable[state] == 0 {
					want = api.ErrState
				}
				if e := f.Send(data, 1, true, 12); e != want {
					t.Errorf("%s: Send of %d: %d, not %d", states[state], len(data), e, want)
				}
				f.is(t, "Send that is refused", api.Heard{}, "; ; "+stood+"; "+left)
			}
			e := f.Send([]byte("ab"), 3, false, 12)
			switch state {
			case api.FOpen:
				f.is(t, "Send", api.Heard{}, "; ab#3@1 a1; open 15; ab#3@1")
			case api.FCloseWait:
				f.is(t, "Send", api.Heard{}, "; ab#3@1 a2; closewait 15; ab#3@1")
			default:
				if e != api.ErrState {
					t.Errorf("%s: Send: %d", states[state], e)
				}
				f.is(t, "Send", api.Heard{}, "; ; "+stood+"; "+left)
				continue
			}
			if e != api.OK {
				t.Errorf("%s: Send: %d", states[state], e)
			}
		}
	})
}

// Pieces of each length stand behind each other, with what goes with them; the deadline is the first one's.
func TestSend(t *testing.T) {
	anywhere(func(x, y uint32) {
		f := open(x, y)
		f.Out()
		for _, c := range []struct {
			data string
			dsn  int
			last bool
			tick int
			want string
		}{
			{"a", 0, false, 12, "a@1 a1"}, {"bcdefghi", 1, false, 13, "bcdefghi#1@2 a1"}, {"jkl", -7, true, 14, "jkl#-7!@10 a1"},
			{"m", math.MaxInt, false, 14, "m#9223372036854775807@13 a1"}, {"no", math.MinInt, true, 14, "no#-9223372036854775808!@14 a1"},
		} {
			if e := f.Send([]byte(c.data), c.dsn, c.last, c.tick); e != api.OK {
				t.Errorf("Send of %q: %d", c.data, e)
			}
			if got := f.outs(); got != c.want {
				t.Errorf("Send of %q: %q, not %q", c.data, got, c.want)
			}
			if got := f.stands(); got != "open 15" {
				t.Errorf("Send of %q: %q", c.data, got)
			}
		}
		f.is(t, "all", api.Heard{}, "; ; open 15; a@1 bcdefghi#1@2 jkl#-7!@10 m#9223372036854775807@13 no#-9223372036854775808!@14")
	})
}

// What is sent tells what came by then, also where it came behind an earlier piece.
func TestSendTellsWhatCame(t *testing.T) {
	f := open(3, 8)
	f.Out()
	f.Send([]byte("a"), 1, false, 12)
	f.hears("xyz @1 A1", 12)
	f.Send([]byte("b"), 2, false, 12)
	f.is(t, "Send", api.Heard{}, "; a#1@1 a1, @2 a4, b#2@2 a4; open 15; a#1@1 b#2@2")
}

// P14.1, Close

func TestCloseInEachState(t *testing.T) {
	anywhere(func(x, y uint32) {
		for state := api.FSynSent; state <= api.FDead; state++ {
			f := bring(state, x, y)
			stood, left := f.stands(), f.pieces(f.Left())
			e := f.Close(12)
			switch state {
			case api.FOpen:
				f.is(t, "Close", api.Heard{}, "; F@1 a1; fin1 15; F@1")
			case api.FCloseWait:
				f.is(t, "Close", api.Heard{}, "; F@1 a2; lastack 15; F@1")
			default:
				f.is(t, "Close", api.Heard{}, "; ; "+stood+"; "+left)
			}
			if want := sendable[state] != 0; want != (e == api.OK) || !want && e != api.ErrState {
				t.Errorf("%s: Close: %d", states[state], e)
			}
			if e == api.OK {
				if e := f.Close(12); e != api.ErrState {
					t.Errorf("%s: Close once more: %d", states[state], e)
				}
				f.is(t, "Close once more", api.Heard{}, "; ; "+states[sendable[state]]+" 15; F@1")
			}
		}
	})
}

// Behind data a Fin is one more piece: the deadline stays.
func TestCloseBehindData(t *testing.T) {
	f := several(7, 9)
	if e := f.Close(13); e != api.OK {
		t.Error(e)
	}
	f.is(t, "Close", api.Heard{}, "; F@7 a1; fin1 14; abc#1@1 d#4@4 ef#5!@5 F@7")
}

// P14.1, Kill

func TestKillInEachState(t *testing.T) {
	want := [...]string{
		"", "; ; dead -; S@0", "; R@1 a1; dead -; S@0", "; R@1 a1; dead -; none", "; R@2 a1; dead -; F@1", "; R@2 a1; dead -; none", "; R@1 a2; dead -; none",
		"; R@2 a2; dead -; F@1", "; R@2 a2; dead -; F@1", "; ; dead -; none", "; ; done -; none", "; ; dead -; none",
	}
	anywhere(func(x, y uint32) {
		for state := api.FSynSent; state <= api.FDead; state++ {
			f := bring(state, x, y)
			f.Kill()
			f.is(t, "Kill in "+states[state], api.Heard{}, want[state])
			stood, left := f.stands(), f.pieces(f.Left())
			f.Kill()
			f.is(t, "Kill once more", api.Heard{}, "; ; "+stood+"; "+left)
		}
	})
}

// What was to be sent still is, ahead of what resets; what isn't acknowledged is left, and no longer goes.
func TestKillLeavesWhatIsToBeSent(t *testing.T) {
	anywhere(func(x, y uint32) {
		f := open(x, y)
		f.Send([]byte("ab"), 1, true, 11)
		f.Kill()
		f.is(t, "Kill", api.Heard{}, "; S@0, @1 a1, ab#1!@1 a1, R@3 a1; dead -; ab#1!@1")
		f.is(t, "an acknowledgement", f.hears("@1 A3", 12), "; ; dead -; ab#1!@1")
		f.is(t, "Expire", f.Expire(1000), "; ; dead -; ab#1!@1")
		if f.Send([]byte("c"), 1, true, 12) != api.ErrState || f.Close(12) != api.ErrState || f.Tell() != api.ErrState || f.Probe() != api.ErrState {
			t.Error("it isn't dead")
		}
	})
}

// P14.1, Tell and Probe

func TestTellAndProbeInEachState(t *testing.T) {
	want := [...]struct{ tell, probe string }{
		{}, {}, {}, {"@1 a1", "@0 a1"}, {"@2 a1", "@0 a1"}, {"@2 a1", "@1 a1"}, {"@1 a2", "@0 a2"}, {"@2 a2", "@0 a2"}, {"@2 a2", "@0 a2"}, {"@2 a2", "@1 a2"}, {}, {},
	}
	anywhere(func(x, y uint32) {
		for state := api.FSynSent; state <= api.FDead; state++ {
			for _, c := range []struct {
				call func(place) api.Errno
				want string
			}{
				{func(f place) api.Errno { return f.Tell() }, want[state].tell},
				{func(f place) api.Errno { return f.Probe() }, want[state].probe},
			} {
				f := bring(state, x, y)
				stood, left := f.stands(), f.pieces(f.Left())
				e := c.call(f)
				if is := c.want != ""; is != (e == api.OK) || !is && e != api.ErrState {
					t.Errorf("%s: %d", states[state], e)
				}
				f.is(t, states[state], api.Heard{}, "; "+c.want+"; "+stood+"; "+left)
			}
		}
	})
}

// With pieces left Tell is at the queue's end, and Probe one ahead of its beginning, which goes on as they go.
func TestTellAndProbeWithPieces(t *testing.T) {
	anywhere(func(x, y uint32) {
		f := several(x, y)
		f.Tell()
		f.Probe()
		f.is(t, "both", api.Heard{}, "; @7 a1, @0 a1; open 14; abc#1@1 d#4@4 ef#5!@5")
		f.hears("xy @1 A5", 12)
		f.Probe()
		f.Tell()
		f.is(t, "both, later", api.Heard{}, "; @7 a3, @4 a3, @7 a3; open 15; ef#5!@5")
		f.hears("@3 A7", 12)
		f.Probe()
		f.is(t, "Probe of none", api.Heard{}, "; @6 a3; open -; none")
	})
}

// The other side tells what came, when it is probed, in each state in which it may be.
func TestProbeIsAnswered(t *testing.T) {
	anywhere(func(x, y uint32) {
		for state := api.FOpen; state <= api.FTimeWait; state++ {
			f := bring(state, x, y)
			// What comes of a flow that has nothing left: one ahead of rcv.
			s := f.seg("@0 A1")
			if state == api.FCloseWait || state >= api.FClosing {
				s.Seq++
			}
			f.Hear(s, 12)
			if l := f.Out(); len(l) != 1 || !l[0].Acks || len(l[0].Piece.Data) != 0 {
				t.Errorf("%s: %v", states[state], l)
			}
		}
	})
}

// P14.2, Out

func TestOutIsInOrderAndOnce(t *testing.T) {
	f := open(1, 5)
	f.Send([]byte("ab"), 1, false, 10)
	f.hears("F xy @1 A1", 10)
	f.Tell()
	f.Close(10)
	f.Expire(13)
	f.is(t, "Out", api.Heard{}, "; S@0, @1 a1, ab#1@1 a1, @3 a4, @3 a4, F@3 a4, ab#1@1 a4, F@3 a4; lastack 19; ab#1@1 F@3")
	if l := f.Out(); len(l) != 0 {
		t.Error(l)
	}
}

// R1, P14.2, nil

func TestNil(t *testing.T) {
	var f *flow.Flow
	for _, tick := range []int{math.MinInt, -1, 0, 5, math.MaxInt} {
		for _, s := range []api.Segment{{}, {Rst: true}, {Syn: true}, {Seq: greatest, Acks: true, Fin: true, Data: []byte("abc")}} {
			if h := f.Hear(s, tick); !sameHeard(h, api.Heard{}) {
				t.Error(h)
			}
		}
		for _, data := range [][]byte{nil, []byte("ab"), make([]byte, 9)} {
			if e := f.Send(data, 1, true, tick); e != api.ErrNil {
				t.Error(e)
			}
		}
		if e := f.Close(tick); e != api.ErrNil {
			t.Error(e)
		}
		if h := f.Expire(tick); !sameHeard(h, api.Heard{}) {
			t.Error(h)
		}
	}
	f.Kill()
	if e, o := f.Tell(), f.Probe(); e != api.ErrNil || o != api.ErrNil {
		t.Error(e, o)
	}
	if l := f.Out(); len(l) != 0 {
		t.Error(l)
	}
	if l := f.Left(); len(l) != 0 {
		t.Error(l)
	}
	if at, has := f.At(); at != 0 || has || f.State() != 0 || f.Smooth() != 32 {
		t.Error(at, has, f.State(), f.Smooth())
	}
}
