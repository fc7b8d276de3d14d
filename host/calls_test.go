package host_test

import (
	"fmt"
	"strings"
	"testing"

	"ferrybridge/api"
	"ferrybridge/host"
	"ferrybridge/key"
	"ferrybridge/token"
)

// call is one on a handle, and what it tells beside an error.
type call struct {
	name string
	do   func(h *host.Host, handle int) (string, api.Errno)
}

// calls are all on a handle, with arguments that may be.
func calls() []call {
	plain := func(do func(h *host.Host, handle int) api.Errno) func(h *host.Host, handle int) (string, api.Errno) {
		return func(h *host.Host, handle int) (string, api.Errno) { return "", do(h, handle) }
	}
	return []call{
		{"write", func(h *host.Host, x int) (string, api.Errno) {
			n, e := h.Write(x, []byte("abc"))
			return strings.Repeat("#", n), e
		}},
		{"read", func(h *host.Host, x int) (string, api.Errno) {
			b, e := h.Read(x, 9)
			return string(b), e
		}},
		{"shutdown", plain((*host.Host).Shutdown)},
		{"close", plain((*host.Host).Close)},
		{"abort", plain((*host.Host).Abort)},
		{"join", plain(func(h *host.Host, x int) api.Errno { return h.Join(x, 2, 1, false) })},
		{"tell", plain(func(h *host.Host, x int) api.Errno { return h.Tell(x, 2) })},
		{"set", plain(func(h *host.Host, x int) api.Errno { return h.Set(x, api.PickTurn) })},
	}
}

// none holds that a handle is none, in all calls, which do nothing.
func none(t *testing.T, h *host.Host, handle int) {
	t.Helper()
	was := about(h)
	h.Out()
	for _, c := range calls() {
		if w, e := c.do(h, handle); w != "" || e != api.ErrNone {
			t.Errorf("%s of %d: %q, error %d", c.name, handle, w, e)
		}
	}
	state(t, h, handle, -1)
	sends(t, h, "")
	if got := about(h); got != was {
		t.Errorf("it was %s, and is %s", was, got)
	}
}

func TestNoHandle(t *testing.T) {
	h := listening(t, 1)
	for _, x := range edges {
		none(t, h, x)
	}
	connects(t, h, 1)
	h.Hear(syn(2000, 80))
	connects(t, h, 3)
	handles(t, h, 1, 3)
	for _, x := range edges {
		if x != 1 && x != 3 {
			none(t, h, x) // 2 waits
		}
	}
	accepts(t, h, 2, api.OK)
	ok(t, h.Set(2, api.PickAll))
	ok(t, h.Abort(1))
	none(t, h, 1)
	ok(t, h.Close(2)) // which aborts, ahead of being open
	none(t, h, 2)
	handles(t, h, 3)
	counts(t, h, 1, 1)
}

// A handle that waits is none, even when its connection is open, and has data.
func TestWaits(t *testing.T) {
	a, b := host.New(1), listening(t, 2)
	connects(t, a, 1)
	flow(t, a, b)
	writes(t, a, 1, "abc")
	flow(t, a, b)
	none(t, b, 1)
	handles(t, b)
	counts(t, b, 1, 1)
	accepts(t, b, 1, api.OK)
	reads(t, b, 1, "abc", api.OK)
}

// Behind Close or Abort there is no handle, but the connection stays till it is over.
func TestClosed(t *testing.T) {
	a, b := pair(t)
	ok(t, a.Close(1))
	handles(t, a)
	counts(t, a, 1, 1)
	flow(t, a, b)
	none(t, a, 1)
	reads(t, b, 1, "", api.ErrClosed)
	state(t, b, 1, api.CCloseWait)
	ok(t, b.Close(1))
	handles(t, b)
	counts(t, b, 1, 1)
	flow(t, a, b)
	none(t, b, 1)
	till(t, 20, a, b)
	counts(t, a, 0, 0)
	counts(t, b, 0, 0)
}

// What is still held of a closed one is held for Linger ticks.
func TestLinger(t *testing.T) {
	h := listening(t, 1)
	h.Prime(7)
	dials(t, h, 2000)
	accepts(t, h, 1, api.OK)
	ticks(5, h)
	ok(t, h.Close(1))
	h.Out()
	for n := 6; n <= 34; n++ {
		h.Tick()
		h.Out()
		counts(t, h, 1, 1)
	}
	tokens(t, h, live(7, 1))
	h.Tick()
	sends(t, h, "0:80>1:2000 AR fast")
	counts(t, h, 0, 0)
	tokens(t, h, quarantined(7, 45))
	ticks(9, h)
	tokens(t, h, quarantined(7, 45))
	ticks(1, h)
	tokens(t, h)
}

// Close and Abort: the handle is none any more, whatever they answer.
func TestLeftWhateverIsAnswered(t *testing.T) {
	for _, over := range []func(a, b *host.Host){
		func(a, b *host.Host) {},
		func(a, b *host.Host) { b.Abort(1); flow(t, a, b) },
		func(a, b *host.Host) { ticks(150, a) },
		func(a, b *host.Host) { a.Shutdown(1); b.Shutdown(1); flow(t, a, b); till(t, 20, a, b) },
	} {
		a, b := pair(t)
		over(a, b)
		was, _ := a.State(1)
		want := api.OK
		if was == api.CClosed {
			want = api.ErrTwice
			counts(t, a, 1, 0)
			handles(t, a, 1)
		}
		told(t, a.Abort(1), want)
		none(t, a, 1)
		counts(t, a, 0, 0)

		a, b = pair(t)
		over(a, b)
		ok(t, a.Close(1))
		none(t, a, 1)
		if was == api.CClosed {
			counts(t, a, 0, 0)
		}
	}
}

// A handle that wasn't closed stays, though its connection is over, and tells with what it ended.
func TestOverStays(t *testing.T) {
	a, b := pair(t)
	writes(t, b, 1, "abc")
	flow(t, a, b)
	ok(t, b.Abort(1))
	flow(t, a, b)
	for range 3 {
		handles(t, a, 1)
		state(t, a, 1, api.CClosed)
		counts(t, a, 1, 0)
		reads(t, a, 1, "", api.ErrReset)
		n, e := a.Write(1, []byte("abc"))
		if n != 0 || e != api.ErrReset {
			t.Error(n, e)
		}
		told(t, a.Shutdown(1), api.ErrReset)
		told(t, a.Join(1, 0, 1, true), api.ErrState)
		ok(t, a.Set(1, api.PickAll))
		told(t, a.Set(1, 3), api.ErrArg)
		ticks(100, a)
	}
	tokens(t, a)
	ok(t, a.Close(1))
	counts(t, a, 0, 0)
}

// What a call on a handle answers is what the connection does.
func TestCalls(t *testing.T) {
	a, b := host.New(1), listening(t, 2)
	connects(t, a, 1)
	n, e := a.Write(1, []byte("abc"))
	if n != 0 || e != api.ErrWait {
		t.Error(n, e)
	}
	reads(t, a, 1, "", api.ErrWait)
	told(t, a.Shutdown(1), api.ErrState)
	told(t, a.Join(1, 0, 1, false), api.ErrState)
	flow(t, a, b)
	accepts(t, b, 1, api.OK)
	text := strings.Repeat("0123456789", 7)
	if n, e := a.Write(1, []byte(text)); n != 64 || e != api.OK {
		t.Error(n, e)
	}
	if n, e := a.Write(1, []byte("x")); n != 0 || e != api.ErrFull {
		t.Error(n, e)
	}
	if n, e := a.Write(1, nil); n != 0 {
		t.Error(n, e)
	}
	reads(t, a, 1, "", api.ErrWait)
	flow(t, a, b)
	for _, most := range []int{0, -1} {
		x, e := b.Read(1, most)
		if len(x) != 0 {
			t.Errorf("%q %d", x, e)
		}
	}
	if x, e := b.Read(1, 3); string(x) != "012" || e != api.OK {
		t.Errorf("%q %d", x, e)
	}
	got := ""
	for range 9 {
		x, _ := b.Read(1, 9)
		got += string(x)
		flow(t, a, b)
	}
	if "012"+got != text[:64] {
		t.Errorf("%q", got)
	}
	for _, own := range edges {
		want := api.OK
		switch {
		case own < 0 || own > 3:
			want = api.ErrArg
		case own == 0:
			want = api.ErrTwice
		}
		told(t, a.Tell(1, own), want)
	}
	flow(t, a, b)
	told(t, a.Join(1, 4, 1, false), api.ErrArg)
	told(t, a.Join(1, 0, 1, false), api.ErrTwice)
	told(t, a.Join(1, 0, 2, false), api.ErrNone)
	ok(t, a.Join(1, 2, 1, true))
	ok(t, b.Join(1, 1, 3, false))
	flow(t, a, b)
	counts(t, a, 1, 3)
	counts(t, b, 1, 3)
	for _, how := range edges {
		want := api.OK
		if how < 0 || how > 2 {
			want = api.ErrArg
		}
		told(t, a.Set(1, how), want)
	}
	ok(t, a.Shutdown(1))
	told(t, a.Shutdown(1), api.ErrState)
	n, e = a.Write(1, []byte("abc"))
	if n != 0 || e != api.ErrClosed {
		t.Error(n, e)
	}
	flow(t, a, b)
	reads(t, b, 1, "", api.ErrClosed)
	state(t, a, 1, api.CFin2)
	state(t, b, 1, api.CCloseWait)
}

// A leg that joins as a backup is one, and Set is how legs are picked.
func TestJoinAndSet(t *testing.T) {
	for _, backup := range []bool{false, true} {
		for how, want := range []string{
			"0:1025>1:80 A dss#1+2 ab",
			"0:1025>1:80 A dss#1+2 ab",
			"0:1025>1:80 A dss#1+2 ab, 2:1025>1:80 A dss#1+2 joinend ab",
		} {
			a, b := pair(t)
			ok(t, a.Tell(1, 2))
			flow(t, a, b)
			ok(t, a.Join(1, 2, 1, backup))
			flow(t, a, b)
			ok(t, a.Set(1, how))
			writes(t, a, 1, "ab")
			if backup {
				want = "0:1025>1:80 A dss#1+2 ab"
			}
			sends(t, a, want)
		}
	}
}

// What reading makes the window is told at once.
func TestReadTells(t *testing.T) {
	a, b := pair(t)
	writes(t, a, 1, strings.Repeat("x", 40))
	flow(t, a, b)
	if x, e := b.Read(1, 8); string(x) != "xxxxxxxx" || e != api.OK {
		t.Errorf("%q %d", x, e)
	}
	sends(t, b, "1:80>0:1025 A dss")
}

// Two handles are of two connections.
func TestHandlesApart(t *testing.T) {
	a, b := host.New(1), listening(t, 2)
	connects(t, a, 1)
	connects(t, a, 2)
	flow(t, a, b)
	accepts(t, b, 1, api.OK)
	accepts(t, b, 2, api.OK)
	writes(t, a, 1, "one")
	writes(t, a, 2, "two")
	writes(t, b, 2, "back")
	flow(t, a, b)
	reads(t, b, 2, "two", api.OK)
	reads(t, b, 1, "one", api.OK)
	reads(t, a, 1, "", api.ErrWait)
	reads(t, a, 2, "back", api.OK)
	ok(t, b.Abort(1))
	flow(t, a, b)
	state(t, a, 1, api.CClosed)
	state(t, a, 2, api.COpen)
}

// A connection that is over frees its token at that tick.
func TestFrees(t *testing.T) {
	a, b := host.New(1), listening(t, 2)
	ticks(3, a)
	ticks(7, b)
	a.Prime(7)
	b.Prime(8)
	connects(t, a, 1)
	flow(t, a, b)
	accepts(t, b, 1, api.OK)
	till(t, 2, a, b)
	tokens(t, a, live(7, 1))
	tokens(t, b, live(8, 1))
	ok(t, b.Abort(1))
	tokens(t, b, quarantined(8, 19))
	tokens(t, a, live(7, 1))
	a.Tick()
	flow(t, a, b)
	tokens(t, a, quarantined(7, 16))
	ticks(9, a)
	tokens(t, a, quarantined(7, 16))
	ticks(1, a)
	tokens(t, a)
	// The handle still is one, and its token another one's; closing it is nothing to that.
	handles(t, a, 1)
	a.Prime(7)
	connects(t, a, 2)
	told(t, a.Shutdown(1), api.ErrReset)
	a.Tick()
	tokens(t, a, live(7, 2))
	ok(t, a.Close(1))
	tokens(t, a, live(7, 2))
	counts(t, a, 1, 1)
}

// The end by time frees it at the tick at which it is over.
func TestFreedByTime(t *testing.T) {
	a, b := pair(t)
	ok(t, a.Shutdown(1))
	flow(t, a, b)
	ok(t, b.Shutdown(1))
	flow(t, a, b)
	state(t, a, 1, api.CTimeWait)
	k := a.Tokens()[0].Token
	till(t, 7, a, b)
	state(t, a, 1, api.CTimeWait)
	till(t, 1, a, b)
	state(t, a, 1, api.CClosed)
	if l := a.Tokens(); len(l) != 1 || l[0] != (token.Entry{Token: k, Until: 18}) {
		t.Error(l)
	}
	// The other side's is rid of it, too.
	till(t, 10, a, b)
	tokens(t, a)
	tokens(t, b)
	handles(t, a, 1)
	handles(t, b, 1)
}

// R2: what answers an error changes nothing that can be told later.
func TestErrorsChangeNothing(t *testing.T) {
	comes := func(wrong bool) string {
		a, b := pair(t)
		a.Prime(11, 12)
		if wrong {
			for _, e := range []api.Errno{
				a.Listen(0), a.Listen(65536), b.Listen(80),
				err(a.Connect(4, 0, 80)), err(a.Connect(0, -1, 80)), err(a.Connect(0, 1, 70000)),
				err(a.Accept(80)), err(b.Accept(80)), err(b.Accept(0)),
				a.Close(2), a.Abort(0), a.Shutdown(-1), a.Tell(2, 2), a.Set(7, 1), a.Join(9, 0, 1, true),
				err(a.Write(2, []byte("abc"))), a.Set(1, 3), a.Tell(1, 0), a.Join(1, 2, 1, false),
			} {
				if e == api.OK {
					t.Error("no error")
				}
			}
		}
		w := about(a) + about(b)
		for range 5 {
			x, e := a.Connect(0, 1, 80)
			w += fmt.Sprint(x, e)
		}
		for range 60 {
			for _, s := range flow(t, a, b) {
				w += words(s)
			}
			a.Tick()
			b.Tick()
			w += about(a) + about(b)
		}
		return w
	}
	if comes(false) != comes(true) {
		t.Error("an error changed something")
	}
}

// The token in a Join is the other key's, so that keys are apart.
func TestKeysApart(t *testing.T) {
	a, b := host.New(1), listening(t, 2)
	a.Prime(7)
	b.Prime(8)
	connects(t, a, 1)
	flow(t, a, b)
	accepts(t, b, 1, api.OK)
	ok(t, a.Tell(1, 2))
	flow(t, a, b)
	ok(t, a.Join(1, 2, 1, false))
	l := sends(t, a, "2:1025>1:80 S join")
	if l[0].Opts[0].Token != key.Token(8) {
		t.Error(l)
	}
}
