package conn_test

import (
	"math"
	"strings"
	"testing"

	"ferrybridge/api"
)

// alphabet is n bytes, one behind the other.
func alphabet(from, n int) string {
	var s strings.Builder
	for i := range n {
		s.WriteByte(byte('a' + (from+i)%26))
	}
	return s.String()
}

// Segments

// What is written goes in pieces, each with its numbers; what came is told with all that goes.
func TestPieces(t *testing.T) {
	d := open(t)
	d.writes(0, "abcdefghijklmnopqrst")
	l := d.sends(0, "0>1 A dss:1#1+8 w32 abcdefgh, 0>1 A dss:1#9+8 w32 ijklmnop, 0>1 A dss:1#17+4 w32 qrst")
	d.hear(1, l[0])
	d.sends(1, "1>0 A dss:9 w24")
	d.hear(1, l[1])
	d.writes(1, "xyz")
	d.hear(1, l[2])
	d.sends(1, "1>0 A dss:17 w16, 1>0 A dss:17#1+3 w16 xyz, 1>0 A dss:21 w12")
	d.reads(1, 5, "abcde")
	d.reads(1, 0, "")
	d.reads(1, -1, "")
	d.reads(1, 99, "fghijklmnopqrst")
	d.fails(1, api.ErrWait)
	d.sends(1, "")
	d.writes(1, "")
	d.sends(1, "")
	d.writes(1, "u")
	d.sends(1, "1>0 A dss:21#4+1 w32 u")
}

// Both ways go on at once.
func TestBothWays(t *testing.T) {
	d := open(t)
	d.writes(0, "hello")
	d.writes(1, "world!")
	d.flow()
	d.reads(0, 99, "world!")
	d.reads(1, 99, "hello")
}

// Data that are fresh must have a map of just their length; else their leg is killed, and they didn't come.
func TestDataWithoutTheirMap(t *testing.T) {
	for name, change := range map[string]func(*api.Segment){
		"no options":    func(s *api.Segment) { s.Opts = nil },
		"another kind":  func(s *api.Segment) { s.Opts[0] = api.Option{Kind: api.Prio} },
		"no map":        func(s *api.Segment) { s.Opts[0] = api.Option{Kind: api.Dss, HasAck: true, Ack: 1} },
		"numbers alone": func(s *api.Segment) { s.Opts[0].HasMap = false },
		"too long":      func(s *api.Segment) { s.Opts[0].Len++ },
		"too short":     func(s *api.Segment) { s.Opts[0].Len-- },
		"none":          func(s *api.Segment) { s.Opts[0].Len = 0 },
		"the end alone": func(s *api.Segment) { s.Opts[0].Len, s.Opts[0].Fin = 0, true },
		"more data":     func(s *api.Segment) { s.Data = append(s.Data, 'x') },
		"fewer data":    func(s *api.Segment) { s.Data = s.Data[:1] },
	} {
		d := joined(t)
		d.writes(0, "abc")
		l := d.out(0)
		change(&l[0])
		if !d.side[1].Hear(l[0], 0) {
			t.Errorf("%s: it isn't its own", name)
		}
		d.is(1, api.COpen, api.OK, 1)
		d.fails(1, api.ErrWait)
		// What is sent on it tells that it is killed, and nothing else.
		got := d.out(1)
		if len(got) != 1 || words(got[0]) != "1>0 AR" {
			t.Errorf("%s: %s", name, all(got))
			continue
		}
		// On the other one they come.
		got[0].Seq, got[0].Ack = l[0].Ack, 0
		d.hear(0, got[0])
		d.is(0, api.COpen, api.OK, 1)
		d.flow()
		d.reads(1, 9, "abc")
	}
}

// Data that aren't fresh need none, and do no harm.
func TestDataThatAreNotFresh(t *testing.T) {
	d := open(t)
	d.writes(0, "abcdefghABCD")
	l := d.out(0)
	behind := l[1]
	behind.Opts = nil
	d.hear(1, behind)
	d.sends(1, "1>0 A dss:1 w32")
	d.hear(1, l[0])
	again := l[0]
	again.Opts = nil
	d.hear(1, again)
	d.is(1, api.COpen, api.OK, 1)
	d.sends(1, "1>0 A dss:9 w24, 1>0 A dss:9 w24")
	d.hear(1, l[1])
	d.reads(1, 99, "abcdefghABCD")
}

// Data are the receiver's by their numbers, on whichever leg they come.
func TestDataByTheirNumbers(t *testing.T) {
	d := joined(t)
	d.ok(d.side[0].Set(api.PickTurn))
	d.writes(0, "abcdefghijklmnopqrst")
	l := d.sends(0, "0>1 A dss:1#1+8 w32 abcdefgh, 2>1 A dss:1#9+8 joinend w32 ijklmnop, 0>1 A dss:1#17+4 w32 qrst")
	d.hear(1, l[1])
	d.fails(1, api.ErrWait)
	d.sends(1, "1>2 A dss:1 w32")
	d.hear(1, l[0])
	d.sends(1, "1>0 A dss:17 w16")
	d.reads(1, 99, "abcdefghijklmnop")
	d.hear(1, l[2])
	d.reads(1, 99, "qrst")
	// What came already stays as it is.
	l[2].Seq += 4
	l[2].Data = []byte("QRST")
	d.hear(1, l[2])
	d.fails(1, api.ErrWait)
	d.is(1, api.COpen, api.OK, 2)
}

// full is two sides of which the first one used up the window, and of what the other one tells of that the last segment, which acknowledges all of it on its leg.
func full(t *testing.T) (*duo, api.Segment) {
	t.Helper()
	d := open(t)
	d.writes(0, alphabet(0, 64))
	d.bring(0)
	l := d.sends(1, "1>0 A dss:9 w24, 1>0 A dss:17 w16, 1>0 A dss:25 w8, 1>0 A dss:33")
	return d, l[3]
}

// What is acknowledged, and how far the window reaches, is the sender's, also where the segment isn't next.
func TestAckAndWindow(t *testing.T) {
	for _, row := range []struct {
		has      bool
		ack, win int
		want     int // how many data are sent
	}{
		{true, 33, 0, 0}, {true, 33, 1, 1}, {true, 33, 8, 8}, {true, 33, 9, 9}, {true, 33, 31, 31}, {true, 33, 32, 32}, {true, 33, 65535, 32},
		{true, 1, 32, 0}, {true, 1, 40, 8}, {true, 9, 32, 8}, {true, 25, 8, 0}, {true, 25, 9, 1},
		{true, 34, 32, 0}, {true, 65, 32, 0}, {true, 66, 32, 0}, {true, 0, 64, 0}, {true, -1, 64, 0}, {true, math.MaxInt, 32, 0}, {true, math.MinInt, 32, 0},
		{true, 33, -1, 0}, {true, 33, 65536, 0}, {true, 33, math.MaxInt, 0}, {false, 33, 32, 0}, {false, 0, 64, 0},
	} {
		for _, by := range []uint32{0, 1, math.MaxUint32, 1 << 31} {
			d, s := full(t)
			s.Seq += by
			s.Win = row.win
			s.Opts = []api.Option{{Kind: api.Dss, HasAck: row.has, Ack: row.ack}}
			d.hear(0, s)
			got := 0
			for _, o := range d.out(0) {
				got += len(o.Data)
			}
			if got != row.want {
				t.Errorf("%+v, %d beyond: %d, not %d", row, by, got, row.want)
			}
		}
	}
}

// Without a Dss nothing of it is heard, nor in a Syn.
func TestAckInWhatHasNone(t *testing.T) {
	for _, change := range []func(*api.Segment){
		func(s *api.Segment) { s.Opts = nil },
		func(s *api.Segment) { s.Opts[0].Kind = api.Prio },
		func(s *api.Segment) { s.Syn = true },
	} {
		d, s := full(t)
		plain := s
		plain.Opts = nil
		s.Win = 32
		change(&s)
		d.hear(0, s)
		// Now there is room on the leg, but not in the window.
		d.hear(0, plain)
		for _, o := range d.out(0) {
			if len(o.Data) > 0 {
				t.Error(words(o))
			}
		}
	}
}

// The end

// The end's number is told by Dss with Fin, without data and a Fin of its own, also where it isn't next.
func TestEndWhereverItIs(t *testing.T) {
	d := open(t)
	d.writes(0, "abc")
	l := d.sends(0, "0>1 A dss:1#1+3 w32 abc")
	d.ok(d.side[0].Shutdown(0))
	end := d.sends(0, "0>1 A dss:1#4+0F w32")[0]
	// All data are to come first.
	d.hear(1, end)
	d.is(1, api.COpen, api.OK, 1)
	d.fails(1, api.ErrWait)
	d.sends(1, "1>0 A dss:1 w32")
	d.hear(1, l[0])
	d.is(1, api.CCloseWait, api.OK, 1)
	d.hear(0, d.sends(1, "1>0 A dss:5 w29")[0])
	d.is(0, api.CFin2, api.OK, 1)
	d.reads(1, 9, "abc")
	d.fails(1, api.ErrClosed)
	// Told once more it is answered once more.
	d.hear(1, end)
	d.hear(1, end)
	d.sends(1, "1>0 A dss:5 w32, 1>0 A dss:5 w32")
	d.is(1, api.CCloseWait, api.OK, 1)
}

// Data may tell it, too: it is behind them.
func TestEndWithData(t *testing.T) {
	for _, again := range []bool{false, true} {
		d := open(t)
		d.writes(0, "abc")
		s := d.out(0)[0]
		s.Opts[0].Fin = true
		if again {
			// Though the data aren't next.
			s.Seq += 7
			d.hear(1, s)
			d.fails(1, api.ErrWait)
			d.sends(1, "1>0 A dss:1 w32")
			s.Seq -= 7
			s.Opts[0].Fin = false
		}
		d.hear(1, s)
		d.is(1, api.CCloseWait, api.OK, 1)
		d.sends(1, "1>0 A dss:5 w29")
		d.reads(1, 9, "abc")
		d.fails(1, api.ErrClosed)
	}
}

// An end that may not be is none.
func TestEndThatMayNotBe(t *testing.T) {
	for _, end := range []int{math.MinInt, -1, 0, 1, 3, 37, 38, math.MaxInt} {
		d := open(t)
		d.writes(0, "abc")
		d.bring(0)
		d.out(1)
		d.reads(1, 9, "abc")
		d.ok(d.side[0].Shutdown(0))
		s := d.out(0)[0]
		s.Opts[0].Dsn = end
		d.hear(1, s)
		if want := end == 4; want != (d.side[1].State() == api.CCloseWait) {
			t.Errorf("end %d: %s", end, stands(d.side[1]))
		}
		// Of what has no map it isn't told either.
		s.Opts[0].Dsn, s.Opts[0].HasMap = 4, false
		d.hear(1, s)
		d.is(1, api.COpen, api.OK, 1)
		s.Opts[0].HasMap, s.Opts[0].Fin = true, false
		d.hear(1, s)
		d.is(1, api.COpen, api.OK, 1)
		s.Opts[0].Fin = true
		d.hear(1, s)
		if want := api.CCloseWait; end == 37 || end == 36 {
			continue
		} else if d.side[1].State() != want {
			t.Errorf("end %d: %s", end, stands(d.side[1]))
		}
	}
}

// A Fin of a leg's own ends the leg's direction, but not the data's.
func TestFinOfALegIsNotTheEnd(t *testing.T) {
	d := open(t)
	d.writes(0, "abc")
	s := d.out(0)[0]
	s.Fin = true
	d.hear(1, s)
	d.is(1, api.COpen, api.OK, 1)
	d.reads(1, 9, "abc")
	d.fails(1, api.ErrWait)
	// In its other direction it still goes.
	d.out(1)
	d.writes(1, "xyz")
	d.sends(1, "1>0 A dss:4#1+3 w32 xyz")
}

// The end is told on each leg that is open, again each 8 ticks, till it is acknowledged.
func TestEndIsToldAgain(t *testing.T) {
	d := joined(t)
	d.ok(d.side[0].Shutdown(0))
	const told = "0>1 A dss:1#1+0F w32, 2>1 A dss:1#1+0F joinend w32"
	d.sends(0, told)
	for tick := 1; tick < 24; tick++ {
		d.side[0].Tick(tick)
		want := ""
		if tick%8 == 0 {
			want = told
		}
		d.tick = tick
		d.sends(0, want)
	}
	d.side[0].Tick(24)
	d.bring(0)
	d.hear(0, d.sends(1, "1>0 A dss:2 w32, 1>2 A dss:2 w32")[1])
	d.is(0, api.CFin2, api.OK, 2)
	for tick := 25; tick < 60; tick++ {
		d.side[0].Tick(tick)
		d.sends(0, "")
	}
}

// Nobody acknowledges it: it is told once, and four times again.
func TestEndIsGivenUp(t *testing.T) {
	for _, data := range []string{"", "abc"} {
		d := open(t)
		d.writes(0, data)
		d.flow()
		d.ok(d.side[0].Shutdown(0))
		told := len(d.out(0))
		for tick := 1; tick < 40; tick++ {
			d.tick = tick
			d.side[0].Tick(tick)
			told += len(d.out(0))
			d.is(0, api.CFin1, api.OK, 1)
		}
		if told != 5 {
			t.Error(told)
		}
		d.tick = 40
		d.side[0].Tick(40)
		d.is(0, api.CClosed, api.ErrTimeout, 0)
		if n, e := d.side[0].Write(nil, 40); n != 0 || e != api.ErrTimeout {
			t.Error(n, e)
		}
		d.fails(0, api.ErrTimeout)
	}
}

// As long as data aren't acknowledged, it isn't given up for that, however often it was told.
func TestEndIsNotGivenUpWithDataOnTheirWay(t *testing.T) {
	d := open(t)
	d.writes(0, "abc")
	d.ok(d.side[0].Shutdown(0))
	d.sends(0, "0>1 A dss:1#1+3 w32 abc, 0>1 A dss:1#4+0F w32")
	d.alone(0, 45)
	d.is(0, api.CFin1, api.OK, 1)
	d.alone(0, 46)
	d.is(0, api.CClosed, api.ErrTimeout, 0)
}

// The end isn't due as long as data wait, or are lost.
func TestEndIsDue(t *testing.T) {
	d := open(t)
	d.writes(0, alphabet(0, 40))
	d.ok(d.side[0].Shutdown(0))
	if n, e := d.side[0].Write([]byte("x"), 0); n != 0 || e != api.ErrClosed {
		t.Error(n, e)
	}
	l := d.sends(0, "0>1 A dss:1#1+8 w32 abcdefgh, 0>1 A dss:1#9+8 w32 ijklmnop, 0>1 A dss:1#17+8 w32 qrstuvwx, 0>1 A dss:1#25+8 w32 yzabcdef")
	for _, s := range l {
		d.hear(1, s)
	}
	d.out(1)
	d.reads(1, 8, "abcdefgh")
	d.hear(0, d.sends(1, "1>0 A dss:33 w8")[0])
	d.sends(0, "0>1 A dss:1#33+8 w32 ghijklmn, 0>1 A dss:1#41+0F w32")
}

// Sending

// No more than the window is on its way.
func TestWindow(t *testing.T) {
	d, s := full(t)
	if n, e := d.side[0].Write([]byte("x"), 0); n != 0 || e != api.ErrFull {
		t.Error(n, e)
	}
	d.sends(0, "")
	d.hear(0, s)
	d.sends(0, "")
	if n, e := d.side[0].Write([]byte(alphabet(64, 33)), 0); n != 32 || e != api.OK {
		t.Error(n, e)
	}
	d.sends(0, "")
	// Reading makes it as wide as is told: 8 or more, that was less.
	d.reads(1, 7, "abcdefg")
	d.sends(1, "")
	d.reads(1, 1, "h")
	d.hear(0, d.sends(1, "1>0 A dss:33 w8")[0])
	d.sends(0, "0>1 A dss:1#33+8 w32 ghijklmn")
	d.reads(1, 1, "i")
	d.sends(1, "")
	d.reads(1, 99, alphabet(9, 23))
	d.sends(1, "")
}

// It is told on each leg that is open.
func TestWindowIsToldOnEachLeg(t *testing.T) {
	d := joined(t)
	d.writes(0, alphabet(0, 32))
	d.flow()
	d.ok(d.side[1].Tell(3, 0))
	d.flow()
	d.ok(d.side[1].Join(3, 0, false, 0))
	d.out(1)
	d.reads(1, 99, alphabet(0, 32))
	for _, s := range d.sends(1, "1>0 A dss:33 w32, 1>2 A dss:33 w32") {
		d.hear(0, s)
	}
	d.writes(0, alphabet(0, 26))
	d.flow()
	d.reads(1, 1, "a")
	d.sends(1, "")
	d.reads(1, 1, "b")
	d.sends(1, "1>0 A dss:59 w8, 1>2 A dss:59 w8")
}

// Which legs are picked: pieces of one byte, none of which is acknowledged.
func TestPicking(t *testing.T) {
	for _, row := range []struct {
		how    int
		backup [3]bool
		want   string // the legs, by their first addresses, till none is able
	}{
		{api.PickQuick, [3]bool{}, "000022223333"},
		{api.PickTurn, [3]bool{}, "023023023023"},
		{api.PickAll, [3]bool{}, "023023023023"},
		{api.PickQuick, [3]bool{false, true, false}, "00003333"},
		{api.PickTurn, [3]bool{false, true, false}, "03030303"},
		{api.PickAll, [3]bool{false, true, true}, "0000"},
		{api.PickQuick, [3]bool{false, true, true}, "0000"},
	} {
		d := open(t)
		for _, own := range []int{2, 3} {
			d.ok(d.side[0].Tell(own, 0))
			d.flow()
			d.ok(d.side[0].Join(own, 1, row.backup[own-1], d.tick))
			d.later(2 * own)
		}
		d.is(0, api.COpen, api.OK, 3)
		d.ok(d.side[0].Set(row.how))
		got := ""
		for range 14 {
			d.writes(0, "x")
			for _, s := range d.out(0) {
				got += string(rune('0' + s.Src))
			}
		}
		if got != row.want {
			t.Errorf("how %d, backups %v: %q, not %q", row.how, row.backup, got, row.want)
		}
	}
}

// later lets all that is on its way come only so many ticks later.
func (d *duo) later(ticks int) {
	d.t.Helper()
	d.collect()
	d.tick += ticks
	d.flow()
}

// The quickest one is that of which the smoothed time is least, of several the first one.
func TestPickQuick(t *testing.T) {
	d := joined(t)
	for i, row := range []struct{ src, ticks int }{{0, 3}, {2, 1}, {2, 1}, {2, 1}, {0, 1}, {2, 5}, {0, 1}, {0, 1}} {
		d.writes(0, "a")
		l := d.out(0)
		if len(l) != 1 || l[0].Src != row.src {
			t.Error(i, all(l))
		}
		d.tick += row.ticks
		d.hear(1, l[0])
		d.flow()
	}
}

// One behind the other, also where one of them is gone.
func TestPickTurnWithoutALeg(t *testing.T) {
	for _, row := range []struct {
		writes, gone int
		want         string
	}{
		{1, 0, "232"}, {1, 2, "303"}, {1, 3, "202"}, {2, 0, "323"}, {2, 2, "303"}, {2, 3, "020"}, {3, 0, "232"}, {3, 2, "030"}, {3, 3, "020"},
	} {
		d := open(t)
		for _, own := range []int{2, 3} {
			d.ok(d.side[0].Tell(own, 0))
			d.flow()
			d.ok(d.side[0].Join(own, 1, false, 0))
			d.flow()
		}
		d.ok(d.side[0].Set(api.PickTurn))
		var last [4]uint32
		for range row.writes {
			d.writes(0, "x")
		}
		d.flow()
		for range 3 {
			d.writes(0, "y")
		}
		for _, s := range d.out(0) {
			last[s.Src] = s.Ack
		}
		// It is reset; what it hadn't acknowledged goes on the next one.
		d.hear(0, api.Segment{Src: 1, Dst: row.gone, SPort: 80, DPort: 1025, Rst: true, Seq: last[row.gone]})
		d.is(0, api.COpen, api.OK, 2)
		got := ""
		for _, s := range d.out(0) {
			got += string(rune('0' + s.Src))
		}
		for range 2 {
			d.writes(0, "z")
			got += string(rune('0' + d.out(0)[0].Src))
		}
		if got != row.want {
			t.Errorf("%+v: %q", row, got)
		}
	}
}

// A backup sends only where no other leg is open: not where these have no room, but where they are gone.
func TestBackups(t *testing.T) {
	for k := range 2 {
		d := told(t)
		own, other := 2, 1
		if k == 1 {
			own, other = 1, 2
		}
		d.ok(d.side[k].Join(own, other, true, 0))
		d.flow()
		for s := range 2 {
			d.ok(d.side[s].Set(api.PickAll))
		}
		// It is one on both sides.
		d.writes(0, alphabet(0, 64))
		d.writes(1, "xyz")
		d.sends(0, "0>1 A dss:1#1+8 w32 abcdefgh, 0>1 A dss:1#9+8 w32 ijklmnop, 0>1 A dss:1#17+8 w32 qrstuvwx, 0>1 A dss:1#25+8 w32 yzabcdef")
		l := d.sends(1, "1>0 A dss:1#1+3 w32 xyz")
		l[0].Opts = nil
		d.hear(0, l[0])
		d.is(0, api.COpen, api.OK, 1)
		got := d.out(0)
		if len(got) != 5 || got[0].Src != 0 || !got[0].Rst {
			t.Fatal(all(got))
		}
		for _, s := range got[1:] {
			if s.Src != 2 || len(s.Data) != 8 {
				t.Error(words(s))
			}
		}
	}
}

// What a leg that is dead hadn't acknowledged is taken once more, and first; what it had isn't.
func TestWhatADeadLegLeaves(t *testing.T) {
	d := joined(t)
	d.ok(d.side[0].Set(api.PickTurn))
	d.writes(0, alphabet(0, 20))
	l := d.sends(0, "0>1 A dss:1#1+8 w32 abcdefgh, 2>1 A dss:1#9+8 joinend w32 ijklmnop, 0>1 A dss:1#17+4 w32 qrst")
	d.hear(1, l[0])
	d.hear(1, l[1])
	for _, s := range d.out(1) {
		d.hear(0, s)
	}
	d.writes(0, "uvw")
	d.sends(0, "2>1 A dss:1#21+3 joinend w32 uvw")
	// The first leg is given up.
	for tick := 1; tick <= 46; tick++ {
		d.tick = tick
		d.side[0].Tick(tick)
		for _, s := range d.out(0) {
			if s.Src == 2 {
				d.hear(1, s)
			}
		}
		for _, s := range d.out(1) {
			if s.Dst == 2 {
				d.hear(0, s)
			}
		}
		if d.side[0].Legs() == 1 {
			break
		}
	}
	d.is(0, api.COpen, api.OK, 1)
	d.flow()
	d.reads(1, 99, alphabet(0, 23))
	d.side[1].Tick(d.tick)
	d.is(1, api.COpen, api.OK, 2)
}

// The same, where it is reset: at once, on the other leg.
func TestWhatAResetLegLeaves(t *testing.T) {
	d := joined(t)
	d.ok(d.side[0].Set(api.PickTurn))
	d.writes(0, alphabet(0, 28))
	l := d.sends(0, "0>1 A dss:1#1+8 w32 abcdefgh, 2>1 A dss:1#9+8 joinend w32 ijklmnop, 0>1 A dss:1#17+8 w32 qrstuvwx, 2>1 A dss:1#25+4 joinend w32 yzab")
	d.hear(0, api.Segment{Src: 1, Dst: 0, SPort: 80, DPort: 1025, Rst: true, Seq: l[0].Ack})
	d.is(0, api.COpen, api.OK, 1)
	d.sends(0, "2>1 A dss:1#1+8 joinend w32 abcdefgh, 2>1 A dss:1#17+8 joinend w32 qrstuvwx")
	d.hear(1, l[0])
	d.out(1)
	d.side[0].Tick(1)
	d.side[0].Tick(2)
	d.flow()
	d.reads(1, 99, alphabet(0, 28))
}

// What is lost, but was acknowledged as data since, isn't sent again.
func TestWhatADeadLegLeavesThatCame(t *testing.T) {
	d := joined(t)
	d.ok(d.side[0].Set(api.PickAll))
	d.writes(0, "abcdef")
	l := d.sends(0, "0>1 A dss:1#1+6 w32 abcdef, 2>1 A dss:1#1+6 joinend w32 abcdef")
	d.hear(1, l[1])
	d.hear(0, d.sends(1, "1>2 A dss:7 w26")[0])
	d.hear(0, api.Segment{Src: 1, Dst: 0, SPort: 80, DPort: 1025, Rst: true, Seq: l[0].Ack})
	d.is(0, api.COpen, api.OK, 1)
	d.sends(0, "")
}
