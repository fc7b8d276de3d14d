package host_test

import (
	"fmt"
	"slices"
	"strings"
	"testing"

	"ferrybridge/api"
	"ferrybridge/host"
	"ferrybridge/token"
)

// whole is a list up to its capacity.
func whole[T any](l []T) []T { return l[:cap(l)] }

// spared is l with spare room behind it, which has something.
func spared[T any](l []T, more ...T) []T {
	return append(slices.Clone(l), more...)[:len(l)]
}

// fill writes x over all of l, spare room included.
func fill[T any](l []T, x T) {
	for i := range whole(l) {
		whole(l)[i] = x
	}
}

// wholly tells all of a segment, spare room included.
func wholly(s api.Segment) string {
	return fmt.Sprint(s, whole(s.Opts), whole(s.Data))
}

// spoil writes over all that a segment has, spare room included.
func spoil(s api.Segment) {
	fill(s.Opts, api.Option{Kind: 99, Key: 99})
	fill(s.Data, '!')
}

// own is s with memory of its own, and spare room that has something.
func own(s api.Segment) api.Segment {
	s.Opts = spared(s.Opts, api.Option{Kind: 77}, api.Option{Kind: 78})
	s.Data = spared(s.Data, []byte("?????")...)
	return s
}

// exchange is two hosts, what they told, and whether all that is handed in and answered is spoilt behind that.
type exchange struct {
	t      *testing.T
	side   [2]*host.Host
	spoilt bool
	told   strings.Builder
}

// sink answers the segments that h has to send, as they were ahead of being spoilt.
func (x *exchange) sink(h *host.Host) []api.Segment {
	var kept []api.Segment
	l := h.Out()
	for _, s := range l {
		fmt.Fprintln(&x.told, words(s), s.Seq, s.Ack, s.Win, s.Opts)
		kept = append(kept, own(s))
		if x.spoilt {
			spoil(s)
		}
	}
	if x.spoilt {
		fill(l, api.Segment{Src: 99})
	}
	return kept
}

// pass lets all come, and holds that what comes isn't changed.
func (x *exchange) pass() {
	for range 30 {
		for k, h := range x.side {
			for _, s := range x.sink(h) {
				was := wholly(s)
				x.side[1-k].Hear(s)
				if got := wholly(s); got != was {
					x.t.Errorf("Hear changed %s to %s", was, got)
				}
				if x.spoilt {
					spoil(s)
				}
			}
		}
	}
}

// prime primes keys, which stay as they were.
func (x *exchange) prime(k int, keys ...uint64) {
	l := spared(keys, 77, 78)
	was := fmt.Sprint(l, whole(l))
	x.side[k].Prime(l...)
	if got := fmt.Sprint(l, whole(l)); got != was {
		x.t.Errorf("Prime changed %s to %s", was, got)
	}
	if x.spoilt {
		fill(l, 99)
	}
}

// use lets side k write to and read of a handle.
func (x *exchange) use(k, handle, tick int) {
	h := x.side[k]
	b := spared([]byte(strings.Repeat(string(rune('a'+tick%26)), tick%11)), []byte("?????")...)
	was := fmt.Sprint(b, whole(b))
	n, e := h.Write(handle, b)
	if got := fmt.Sprint(b, whole(b)); got != was {
		x.t.Errorf("Write changed %s to %s", was, got)
	}
	r, f := h.Read(handle, tick%13)
	fmt.Fprintln(&x.told, tick, k, n, e, string(r), f)
	if x.spoilt {
		fill(b, '!')
		fill(r, '!')
	}
}

// look tells what there is.
func (x *exchange) look() {
	for _, h := range x.side {
		fmt.Fprintln(&x.told, about(h))
		tokens, handles := h.Tokens(), h.Handles()
		fmt.Fprintln(&x.told, tokens, handles)
		if x.spoilt {
			fill(tokens, token.Entry{Token: 99})
			fill(handles, 99)
		}
	}
}

func exchanged(t *testing.T, spoilt bool) string {
	t.Helper()
	x := &exchange{t: t, side: [2]*host.Host{host.New(1), host.New(2)}, spoilt: spoilt}
	ok(t, x.side[1].Listen(80))
	x.prime(0, 7, 8)
	x.prime(1, 5)
	x.prime(0, 9)
	for tick := range 100 {
		if tick%20 == 0 {
			n, e := x.side[0].Connect(0, 1, 80)
			fmt.Fprintln(&x.told, n, e)
		}
		if tick%3 == 0 {
			x.pass()
			n, e := x.side[1].Accept(80)
			fmt.Fprintln(&x.told, n, e)
		} else {
			// All of it is lost, and must be sent again as it was.
			x.sink(x.side[0])
			x.sink(x.side[1])
		}
		for handle := 1; handle < 5; handle++ {
			for k, h := range x.side {
				x.use(k, handle, tick)
				h.Tell(handle, tick%4)
				h.Join(handle, tick%4, 1-k, false)
				if tick == 70 {
					h.Close(handle)
				}
			}
		}
		x.look()
		x.side[0].Tick()
		x.side[1].Tick()
	}
	return x.told.String()
}

// What is handed in isn't changed, nor kept; what is answered is nobody else's.
func TestMemory(t *testing.T) {
	clean := exchanged(t, false)
	got := exchanged(t, true)
	if got != clean {
		was, is := strings.Split(clean, "\n"), strings.Split(got, "\n")
		for i := range was {
			if i >= len(is) || was[i] != is[i] {
				t.Fatalf("line %d: not %q", i, was[i])
			}
		}
	}
	if clean != exchanged(t, false) {
		t.Error("it isn't the same twice")
	}
	if len(clean) < 50000 || !strings.Contains(clean, "joinend") {
		t.Error(len(clean))
	}
}

// Spare room has nothing.
func TestSpareRoom(t *testing.T) {
	a, b := host.New(1), listening(t, 2)
	for range 3 {
		a.Connect(0, 1, 80)
		flow(t, a, b)
		b.Accept(80)
	}
	for x := 1; x <= 3; x++ {
		writes(t, a, x, "0123456789abcdef")
	}
	a.Hear(opening(3000, 5))
	l := a.Out()
	for _, s := range whole(l)[len(l):] {
		if len(s.Opts) > 0 || len(s.Data) > 0 || words(s) != "0:0>0:0 " || s.Seq != 0 || s.Ack != 0 {
			t.Errorf("%+v", s)
		}
	}
	for _, s := range l {
		for _, o := range whole(s.Opts)[len(s.Opts):] {
			if o != (api.Option{}) {
				t.Errorf("%+v", o)
			}
		}
		b.Hear(s)
	}
	r, _ := b.Read(1, 5)
	for _, x := range whole(r)[len(r):] {
		if x != 0 {
			t.Errorf("%q", whole(r))
		}
	}
	for _, e := range whole(a.Tokens())[3:] {
		if e != (token.Entry{}) {
			t.Error(e)
		}
	}
	for _, x := range whole(a.Handles())[3:] {
		if x != 0 {
			t.Error(x)
		}
	}
}

// Asking changes nothing, and what was told by Out is told once.
func TestAsking(t *testing.T) {
	run := func(ask bool) string {
		a, b := host.New(1), listening(t, 2)
		w := ""
		for tick := range 60 {
			if tick%15 == 0 {
				a.Connect(0, 1, 80)
			}
			for _, h := range []*host.Host{a, b} {
				for x := range 5 {
					h.Write(x, []byte("abc"))
					h.Read(x, 4)
				}
				if ask {
					for range 3 {
						about(h)
						h.Listen(80 * tick / 70)
						h.Connect(4, 0, 0)
						h.Accept(81)
					}
				}
			}
			b.Accept(80)
			for _, s := range flow(t, a, b) {
				w += words(s) + "\n"
			}
			a.Tick()
			b.Tick()
		}
		return w + about(a) + about(b)
	}
	if run(true) != run(false) {
		t.Error("asking changed something")
	}
}

// Two hosts of one seed are two.
func TestApart(t *testing.T) {
	a, b := host.New(1), host.New(1)
	ok(t, a.Listen(80))
	ok(t, b.Listen(80))
	a.Prime(7)
	connects(t, a, 1)
	tokens(t, b)
	counts(t, b, 0, 0)
	sends(t, b, "")
	connects(t, b, 1)
	connects(t, a, 2)
	if k, l := keyOf(t, a.Out()[1]), keyOf(t, b.Out()[0]); k != l {
		t.Error(k, l)
	}
	ticks(3, a)
	if b.Now() != 0 {
		t.Error(b.Now())
	}
}

// twins is what becomes of handle 1 of both of two hosts, of which each has a handle 2, too, to which anything is done, or nothing.
func twins(t *testing.T, seed int, other bool) string {
	t.Helper()
	side := [2]*host.Host{host.New(1), listening(t, 2)}
	for x := 1; x <= 2; x++ {
		connects(t, side[0], x)
		flow(t, side[0], side[1])
		accepts(t, side[1], x, api.OK)
	}
	var w strings.Builder
	// What is done to each handle hangs on dice of its own.
	rolls := [3]dice{0, dice(seed), dice(seed + 1000)}
	for tick := range 150 {
		for handle := 1; handle <= 2; handle++ {
			if handle == 2 && !other {
				continue
			}
			d := &rolls[handle]
			for range 3 {
				told := does(side[d.roll(2)], handle, d)
				if handle == 1 {
					fmt.Fprintln(&w, tick, told)
				}
			}
		}
		for k, h := range side {
			for _, s := range h.Out() {
				handle := s.SPort + s.DPort - 80 - 1024
				if handle == 1 {
					fmt.Fprintln(&w, tick, k, words(s), s.Seq, s.Ack, s.Win)
				}
				if rolls[handle].roll(4) > 0 {
					side[1-k].Hear(s)
				}
			}
			state, is := h.State(1)
			fmt.Fprintln(&w, state, is)
			h.Tick()
		}
	}
	return w.String()
}

// does does something with a handle, and tells what that answers.
func does(h *host.Host, handle int, d *dice) string {
	switch n := d.roll(100); {
	case n < 40:
		k, e := h.Write(handle, []byte("0123456789"[:d.roll(10)]))
		return fmt.Sprint("write", k, e)
	case n < 80:
		b, e := h.Read(handle, d.roll(10))
		return fmt.Sprint("read", string(b), e)
	case n < 85:
		return fmt.Sprint("tell", h.Tell(handle, d.roll(4)))
	case n < 92:
		return fmt.Sprint("join", h.Join(handle, d.roll(4), d.roll(4), false))
	case n < 95:
		return fmt.Sprint("set", h.Set(handle, d.roll(3)))
	case n == 95:
		return fmt.Sprint("shutdown", h.Shutdown(handle))
	case n == 96 && d.roll(2) == 0:
		return fmt.Sprint("close", h.Close(handle))
	case n == 97 && d.roll(4) == 0:
		return fmt.Sprint("abort", h.Abort(handle))
	}
	return ""
}

// What is done to one handle changes nothing of another one's connection.
func TestTwins(t *testing.T) {
	for seed := range 100 {
		if twins(t, seed, false) != twins(t, seed, true) {
			t.Errorf("seed %d: a handle hangs on another one", seed)
		}
	}
}
