package conn_test

import (
	"fmt"
	"slices"
	"testing"

	"ferrybridge/api"
	"ferrybridge/conn"
)

// spared is b with spare room behind it, which has something.
func spared(b []byte) []byte {
	l := append(slices.Clone(b), "?????"...)
	return l[:len(b)]
}

// sparedSegment is s with spare room behind all that it has.
func sparedSegment(s api.Segment) api.Segment {
	o := append(slices.Clone(s.Opts), api.Option{Kind: 77}, api.Option{Kind: 78})
	s.Opts = o[:len(s.Opts)]
	s.Data = spared(s.Data)
	return s
}

// full is a list up to its capacity.
func whole[T any](l []T) []T { return l[:cap(l)] }

// wholly tells all of a segment, spare room included.
func wholly(s api.Segment) string {
	return fmt.Sprint(s, whole(s.Opts), whole(s.Data))
}

// spoil writes over all that a segment has, spare room included.
func spoil(s api.Segment) {
	for i := range whole(s.Opts) {
		whole(s.Opts)[i] = api.Option{Kind: 99, Key: 99}
	}
	for i := range whole(s.Data) {
		whole(s.Data)[i] = '!'
	}
}

// exchange lets all that both sides do hang on what they are handed, and what they answer, being spoilt or not; it answers what they told.
func exchange(t *testing.T, spoilt bool) string {
	t.Helper()
	told := ""
	sink := func(l []api.Segment) []api.Segment {
		for _, s := range l {
			told += words(s) + fmt.Sprint(s.Seq, s.Ack) + "\n"
		}
		if !spoilt {
			return l
		}
		var kept []api.Segment
		for _, s := range l {
			c := s
			c.Opts, c.Data = slices.Clone(s.Opts), slices.Clone(s.Data)
			kept = append(kept, c)
			spoil(s)
		}
		for i := range whole(l) {
			whole(l)[i] = api.Segment{Src: 99}
		}
		return kept
	}
	a, _ := conn.Dial(keys[0], conn.Ends{Own: 0, Other: 1, OwnPort: ports[0], OtherPort: ports[1]}, 0)
	s := sparedSegment(sink(a.Out())[0])
	was := wholly(s)
	b, _ := conn.Accept(keys[1], s, 0)
	if got := wholly(s); got != was {
		t.Errorf("Accept changed %s to %s", was, got)
	}
	if spoilt {
		spoil(s)
	}
	side := [2]*conn.Conn{a, b}
	pass := func(tick int) {
		for range 30 {
			for k, c := range side {
				for _, s := range sink(c.Out()) {
					s = sparedSegment(s)
					was := wholly(s)
					if side[1-k].Mine(s) {
						side[1-k].Hear(s, tick)
					} else {
						side[1-k].Joined(s, tick)
					}
					if got := wholly(s); got != was {
						t.Errorf("hearing changed %s to %s", was, got)
					}
					if spoilt {
						spoil(s)
					}
				}
			}
		}
	}
	pass(0)
	a.Tell(2, 0)
	pass(0)
	a.Join(2, 1, false, 0)
	pass(0)
	a.Set(api.PickTurn)
	for tick := 1; tick < 120; tick++ {
		for k, c := range side {
			c.Tick(tick)
			text := spared([]byte(alphabet(tick+k, tick%11)))
			was := fmt.Sprint(text, whole(text))
			n, e := c.Write(text, tick)
			if got := fmt.Sprint(text, whole(text)); got != was {
				t.Errorf("Write changed %s to %s", was, got)
			}
			if spoilt {
				for i := range whole(text) {
					whole(text)[i] = '!'
				}
			}
			r, f := c.Read(tick%13, tick)
			told += fmt.Sprint(tick, k, n, e, string(r), f, stands(c), "\n")
			if spoilt {
				for i := range whole(r) {
					whole(r)[i] = '!'
				}
			}
		}
		if tick%3 != 0 {
			// All of it is lost, and must be sent again as it was.
			sink(a.Out())
			sink(b.Out())
			continue
		}
		pass(tick)
		if tick == 99 {
			a.Shutdown(tick)
		}
	}
	return told
}

// What is handed in isn't changed, nor kept; what is answered is nobody else's.
func TestMemory(t *testing.T) {
	clean := exchange(t, false)
	if got := exchange(t, true); got != clean {
		for i, line := range slices.Collect(lines(clean)) {
			other := slices.Collect(lines(got))
			if i >= len(other) || other[i] != line {
				t.Fatalf("line %d: not %q", i, line)
			}
		}
		t.Error("it hangs on what was handed in, or answered")
	}
	if clean != exchange(t, false) {
		t.Error("it isn't the same twice")
	}
}

// lines is the lines of a text.
func lines(text string) func(func(string) bool) {
	return func(yield func(string) bool) {
		from := 0
		for i := range len(text) {
			if text[i] == '\n' {
				if !yield(text[from:i]) {
					return
				}
				from = i + 1
			}
		}
	}
}

// Spare room has nothing.
func TestSpareRoom(t *testing.T) {
	d := joined(t)
	d.writes(0, alphabet(0, 30))
	d.ok(d.side[0].Tell(3, 0))
	l := d.side[0].Out()
	for _, s := range whole(l)[len(l):] {
		if len(s.Opts) > 0 || len(s.Data) > 0 || words(s) != "0>0 " {
			t.Errorf("%+v", s)
		}
	}
	for _, s := range l {
		for _, o := range whole(s.Opts)[len(s.Opts):] {
			if o != (api.Option{}) {
				t.Errorf("%+v", o)
			}
		}
		for _, x := range whole(s.Data)[len(s.Data):] {
			if x != 0 {
				t.Errorf("%q", whole(s.Data))
			}
		}
		d.hear(1, s)
	}
	b, _ := d.side[1].Read(5, 0)
	for _, x := range whole(b)[len(b):] {
		if x != 0 {
			t.Errorf("%q", whole(b))
		}
	}
}

// No two lists of one answer share any.
func TestOutSharesNothing(t *testing.T) {
	d := joined(t)
	d.ok(d.side[0].Set(api.PickAll))
	d.writes(0, alphabet(0, 30))
	l := d.side[0].Out()
	for i := range l {
		var others []string
		for j := range l {
			if j != i {
				others = append(others, wholly(l[j]))
			}
		}
		spoil(l[i])
		for j := range l {
			if j != i {
				if others[0] != wholly(l[j]) {
					t.Errorf("%d and %d share something", i, j)
				}
				others = others[1:]
			}
		}
	}
}

// comes is all that comes of the first side, when it is left alone.
func comes(d *duo) string {
	told := all(d.side[0].Out()) + stands(d.side[0])
	for tick := d.tick; tick < d.tick+70; tick++ {
		d.side[0].Tick(tick)
		told += fmt.Sprint(tick, all(d.side[0].Out()), stands(d.side[0]), d.side[0].Timers())
	}
	return told
}

// R2: a call that answers an error has changed nothing.
func TestErrorsChangeNothing(t *testing.T) {
	for state := api.CInit; state <= api.CClosed; state++ {
		for _, closed := range []bool{false, true} {
			prepare := func() *duo {
				d := bring(t, state)
				if closed {
					d.side[0].Close(d.tick)
				}
				return d
			}
			plain := comes(prepare())
			d := prepare()
			c := d.side[0]
			join := func(src, dst int, token uint32) api.Segment {
				return api.Segment{Src: src, Dst: dst, SPort: 80, DPort: 1025, Syn: true, Seq: 7, Opts: []api.Option{{Kind: api.Join, Token: token, Addr: src}}}
			}
			for i, call := range []func() api.Errno{
				func() api.Errno { return c.Set(-1) },
				func() api.Errno { return c.Set(3) },
				func() api.Errno { return c.Tell(4, d.tick) },
				func() api.Errno { return c.Tell(0, d.tick) },
				func() api.Errno { return c.Join(4, 1, false, d.tick) },
				func() api.Errno { return c.Join(3, 1, false, d.tick) },
				func() api.Errno { return c.Join(0, 3, true, d.tick) },
				func() api.Errno { return c.Join(0, 1, true, d.tick) },
				func() api.Errno { return c.Joined(api.Segment{}, d.tick) },
				func() api.Errno { return c.Joined(join(3, 0, c.Token()+1), d.tick) },
				func() api.Errno { return c.Joined(join(3, 3, c.Token()), d.tick) },
				func() api.Errno { return c.Joined(join(1, 0, c.Token()), d.tick) },
			} {
				if e := call(); e == api.OK {
					t.Errorf("%s: call %d: no error", states[state], i)
				}
			}
			// These are errors in some states alone.
			if state != api.COpen && state != api.CCloseWait || closed {
				_, e := c.Write([]byte("abc"), d.tick)
				if f := c.Shutdown(d.tick); e == api.OK || f == api.OK {
					t.Errorf("%s: %d %d", states[state], e, f)
				}
			}
			if _, e := c.Read(9, d.tick); e == api.OK {
				t.Errorf("%s: it is read", states[state])
			}
			if closed && c.Close(d.tick) != api.ErrTwice {
				t.Errorf("%s: it is closed twice", states[state])
			}
			if state == api.CClosed && c.Abort(d.tick) != api.ErrTwice {
				t.Error("it is aborted")
			}
			// An address that was refused wasn't told.
			if state >= api.COpen && state <= api.CLastAck && c.State() == state {
				if e := c.Join(0, 3, false, d.tick); e != api.ErrNone {
					t.Errorf("%s: %d", states[state], e)
				}
			}
			if got := comes(d); got != plain {
				t.Errorf("%s: %q, not %q", states[state], got, plain)
			}
		}
	}
	// A Write without room takes nothing.
	d, e := open(t), open(t)
	d.writes(0, alphabet(0, 64))
	e.writes(0, alphabet(0, 64))
	if n, err := d.side[0].Write([]byte("abc"), 0); n != 0 || err != api.ErrFull {
		t.Error(n, err)
	}
	if got, want := comes(d), comes(e); got != want {
		t.Errorf("%q, not %q", got, want)
	}
}
