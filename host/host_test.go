package host_test

import (
	"fmt"
	"slices"
	"testing"

	"ferrybridge/api"
	"ferrybridge/host"
	"ferrybridge/key"
)

func TestExample(t *testing.T) {
	h := host.New(1)
	connects(t, h, 1)
	h.Tick()
	sends(t, h, "0:1025>1:80 S capable")
	sends(t, h, "")
}

func TestNew(t *testing.T) {
	for _, seed := range []uint64{0, 1, 1 << 63, 1<<64 - 1} {
		h := host.New(seed)
		if h.Now() != 0 {
			t.Error(h.Now())
		}
		counts(t, h, 0, 0)
		handles(t, h)
		tokens(t, h)
		sends(t, h, "")
		_, e := h.Accept(80)
		told(t, e, api.ErrNone)
	}
}

func TestListen(t *testing.T) {
	for _, port := range edges {
		h := host.New(1)
		want := api.OK
		if port < 1 || port > 65535 {
			want = api.ErrArg
		}
		told(t, h.Listen(port), want)
		_, e := h.Accept(port)
		if want == api.OK {
			told(t, h.Listen(port), api.ErrTwice)
			told(t, e, api.ErrWait)
		} else {
			told(t, h.Listen(port), api.ErrArg)
			told(t, e, api.ErrNone)
		}
	}
	// At as many ports as one wants.
	h := host.New(1)
	for port := 1; port <= 300; port++ {
		ok(t, h.Listen(port))
	}
	for port := 1; port <= 300; port++ {
		told(t, h.Listen(port), api.ErrTwice)
	}
}

func TestConnect(t *testing.T) {
	for _, own := range edges {
		for _, other := range edges {
			for _, port := range edges {
				h := host.New(1)
				want, err := 1, api.OK
				if own < 0 || own > 3 || other < 0 || other > 3 || port < 0 || port > 65535 {
					want, err = 0, api.ErrArg
				}
				x, e := h.Connect(own, other, port)
				if x != want || e != err {
					t.Errorf("from %d to %d:%d: %d, error %d", own, other, port, x, e)
				}
				if e == api.OK {
					sends(t, h, fmt.Sprintf("%d:1025>%d:%d S capable", own, other, port))
					counts(t, h, 1, 1)
					handles(t, h, 1)
					state(t, h, 1, api.CInit)
				} else {
					sends(t, h, "")
					counts(t, h, 0, 0)
					tokens(t, h)
				}
			}
		}
	}
}

// Handles rise, those of connections that came among them, and ports with them.
func TestHandlesRise(t *testing.T) {
	h := listening(t, 1)
	connects(t, h, 1)
	h.Hear(syn(2000, 80))
	connects(t, h, 3)
	ok(t, h.Abort(3))
	// What is refused has no handle.
	_, e := h.Connect(0, 4, 80)
	told(t, e, api.ErrArg)
	h.Hear(syn(2000, 81))
	connects(t, h, 4)
	accepts(t, h, 2, api.OK)
	sends(t, h, "0:1025>1:80 S capable, 0:80>1:2000 SA capable, 0:1027>1:80 S capable, 0:81>1:2000 AR, 0:1028>1:80 S capable")
	handles(t, h, 1, 2, 4)
}

// refused lets a host connect, and be refused.
func refused(t *testing.T, h *host.Host, want int) {
	t.Helper()
	h.Out()
	connects(t, h, want)
	for _, s := range h.Out() {
		h.Hear(reset(s))
	}
	state(t, h, want, api.CClosed)
}

// TestConnectErrors: of several the first one is told, and nothing is changed.
func TestConnectErrors(t *testing.T) {
	// Six connections, of which two are over and four have a token.
	h := host.New(1)
	refused(t, h, 1)
	refused(t, h, 2)
	told(t, err(h.Connect(0, 1, 65536)), api.ErrArg)
	ticks(10, h)
	h.Prime(21, 22, 23, 24)
	for x := 3; x <= 6; x++ {
		connects(t, h, x)
	}
	h.Prime(21, 21, 22, 22)
	was := about(h)
	for range 3 {
		told(t, err(h.Connect(-1, 1, 80)), api.ErrArg)
		told(t, err(h.Connect(0, 4, 80)), api.ErrArg)
		told(t, err(h.Connect(0, 1, -1)), api.ErrArg)
		told(t, err(h.Connect(0, 1, 80)), api.ErrFull)
	}
	if got := about(h); got != was {
		t.Errorf("it was %s, and is %s", was, got)
	}
	// A connection is gone, but there are still six: the table isn't full.
	ok(t, h.Abort(3))
	ticks(10, h)
	h.Out()
	// 1 is over, and gone now; the table has 22, 23, 24.
	ok(t, h.Close(1))
	h.Prime(23, 25, 26)
	connects(t, h, 7) // draws 21, which is nobody's any more
	tokens(t, h, live(21, 7), live(22, 4), live(23, 5), live(24, 6))
	// One more may be; the table is full again, but no key is drawn for that.
	ok(t, h.Close(2))
	for range 5 {
		told(t, err(h.Connect(0, 1, 80)), api.ErrTable)
		told(t, err(h.Connect(4, 1, 80)), api.ErrArg)
	}
	ok(t, h.Abort(6))
	for range 5 {
		told(t, err(h.Connect(0, 1, 80)), api.ErrTable) // 24 is quarantined
	}
	ticks(9, h)
	told(t, err(h.Connect(0, 1, 80)), api.ErrTable)
	ticks(1, h)
	// 21, 22, 22, 23 are drawn, none of which can be taken; behind them 25 can.
	told(t, err(h.Connect(0, 1, 80)), api.ErrNone)
	connects(t, h, 8)
	tokens(t, h, live(21, 7), live(22, 4), live(23, 5), live(25, 8))
}

// err is a call's error alone.
func err(_ int, e api.Errno) api.Errno { return e }

// The last handle with a port of its own is the one of 65535.
func TestNoPortLeft(t *testing.T) {
	h := listening(t, 1)
	const last = 65535 - 1024
	for x := 1; x < last-1; x++ {
		if got, e := h.Connect(0, 1, 80); got != x || e != api.OK {
			t.Fatal(x, got, e)
		}
		h.Abort(x)
		if x%4 == 0 {
			ticks(10, h)
		}
	}
	ticks(10, h)
	h.Out()
	connects(t, h, last-1)
	connects(t, h, last)
	sends(t, h, "0:65534>1:80 S capable, 0:65535>1:80 S capable")
	for range 3 {
		told(t, err(h.Connect(0, 1, 80)), api.ErrArg)
	}
	handles(t, h, last-1, last)
	// Ahead of all other errors.
	h.Hear(syn(2000, 80))
	h.Hear(syn(2001, 80))
	accepts(t, h, last+1, api.OK)
	accepts(t, h, last+2, api.OK)
	told(t, err(h.Connect(0, 1, 80)), api.ErrArg)
	// What comes needs no port of its own.
	ok(t, h.Abort(last))
	ticks(10, h)
	told(t, err(h.Connect(0, 1, 80)), api.ErrArg)
	h.Hear(syn(2002, 80))
	accepts(t, h, last+3, api.OK)
}

func TestAccept(t *testing.T) {
	h := host.New(1)
	ok(t, h.Listen(80))
	ok(t, h.Listen(81))
	accepts(t, h, 0, api.ErrWait)
	for _, port := range edges {
		if port != 80 && port != 81 {
			_, e := h.Accept(port)
			told(t, e, api.ErrNone)
		}
	}
	// The one that waits longest at that port, whichever of them is open.
	h.Hear(syn(2000, 81))
	h.Hear(syn(2001, 80))
	h.Tick()
	dials(t, h, 2002)
	h.Hear(syn(2003, 81))
	handles(t, h)
	for _, x := range []int{1, 2, 3, 4} {
		state(t, h, x, -1)
	}
	accepts(t, h, 2, api.OK)
	handles(t, h, 2)
	state(t, h, 2, api.CInit)
	accepts(t, h, 3, api.OK)
	state(t, h, 3, api.COpen)
	accepts(t, h, 0, api.ErrWait)
	handles(t, h, 2, 3)
	for _, want := range []int{1, 4} {
		if x, e := h.Accept(81); x != want || e != api.OK {
			t.Error(x, e)
		}
	}
	_, e := h.Accept(81)
	told(t, e, api.ErrWait)
	handles(t, h, 1, 2, 3, 4)
	// It is the same one, of which nothing was sent by that.
	h.Out()
	writes(t, h, 3, "abc")
	sends(t, h, "0:80>1:2002 A dss#1+3 abc")
}

// Nothing that a connection does hangs on being accepted.
func TestAcceptChangesNothing(t *testing.T) {
	run := func(accept int) string {
		h := listening(t, 1)
		dials(t, h, 2000)
		told := ""
		for tick := range 30 {
			if tick == accept {
				accepts(t, h, 1, api.OK)
			}
			told += fmt.Sprint(h.Tokens(), all(h.Out()))
			if tick < 29 {
				h.Tick()
			}
		}
		return told
	}
	for _, accept := range []int{0, 5, 29} {
		if got, want := run(accept), run(-1); got != want {
			t.Errorf("%q, not %q", got, want)
		}
	}
}

func TestTick(t *testing.T) {
	h := host.New(1)
	for n := range 100 {
		if h.Now() != n {
			t.Fatal(h.Now())
		}
		h.Tick()
	}
	// Calls are at the host's tick: the Syn is sent again 4 ticks later, and 8 behind that.
	connects(t, h, 1)
	h.Out()
	for n := 101; n <= 112; n++ {
		h.Tick()
		want := ""
		if n == 104 || n == 112 {
			want = "0:1025>1:80 S capable"
		}
		sends(t, h, want)
	}
}

// Each connection's Tick in the order of handles, and behind all of them what waited too long.
func TestTickOrder(t *testing.T) {
	h := listening(t, 1)
	h.Hear(syn(2000, 80)) // 1: sent again at 4 and 12 and 28, aborted at 30
	h.Tick()
	h.Tick()
	connects(t, h, 2) // 2: sent again at 6, 14, 30
	h.Hear(syn(2001, 80))
	connects(t, h, 4)
	h.Out()
	for n := 3; n <= 32; n++ {
		h.Tick()
		want := ""
		switch n {
		case 4, 12, 28:
			want = "0:80>1:2000 SA capable"
		case 6, 14:
			want = "0:1026>1:80 S capable, 0:80>1:2001 SA capable, 0:1028>1:80 S capable"
		case 30:
			want = "0:1026>1:80 S capable, 0:80>1:2001 SA capable, 0:1028>1:80 S capable, 0:80>1:2000 AR fast"
		case 32:
			want = "0:80>1:2001 AR fast"
		}
		sends(t, h, want)
	}
	handles(t, h, 2, 4)
	counts(t, h, 2, 2)
}

// What is to be sent is told in the order in which it was, of whichever handle.
func TestOutOrder(t *testing.T) {
	h := listening(t, 1)
	h.Hear(syn(2002, 81))
	connects(t, h, 1)
	dialsQuietly(h, 2000)
	accepts(t, h, 2, api.OK)
	h.Hear(syn(2001, 82))
	connects(t, h, 3)
	ok(t, h.Abort(1))
	ok(t, h.Abort(3))
	ok(t, h.Abort(2))
	sends(t, h, "0:81>1:2002 AR, 0:1025>1:80 S capable, 0:80>1:2000 SA capable, 0:82>1:2001 AR, 0:1027>1:80 S capable, 0:80>1:2000 AR fast")
	sends(t, h, "")
}

// dialsQuietly lets a Syn come, of which the answer stays to be sent.
func dialsQuietly(h *host.Host, from int) { h.Hear(syn(from, 80)) }

// Legs and timers are counted over all connections.
func TestCounts(t *testing.T) {
	a, b := host.New(1), listening(t, 2)
	for x := 1; x <= 3; x++ {
		connects(t, a, x)
		flow(t, a, b)
		if n, legs, timers := a.Counts(); n != x || legs != x || timers != x {
			t.Error(n, legs, timers)
		}
		if n, legs, timers := b.Counts(); n != x || legs != x || timers != x {
			t.Error(n, legs, timers)
		}
		accepts(t, b, x, api.OK)
	}
	ok(t, a.Tell(2, 2))
	ok(t, a.Join(2, 2, 1, false))
	flow(t, a, b)
	if n, legs, timers := b.Counts(); n != 3 || legs != 4 || timers != 3 {
		t.Error(n, legs, timers)
	}
	writes(t, a, 1, "abc")
	if n, legs, timers := a.Counts(); n != 3 || legs != 4 || timers != 4 {
		t.Error(n, legs, timers)
	}
	ok(t, a.Abort(3))
	if n, legs, timers := a.Counts(); n != 2 || legs != 3 || timers != 3 {
		t.Error(n, legs, timers)
	}
	// One that was reset, but whose handle wasn't closed, is none of legs or timers.
	flow(t, a, b)
	if n, legs, timers := b.Counts(); n != 3 || legs != 3 || timers != 2 {
		t.Error(n, legs, timers)
	}
	ok(t, b.Close(3))
	if n, legs, timers := b.Counts(); n != 2 || legs != 3 || timers != 2 {
		t.Error(n, legs, timers)
	}
}

func TestNil(t *testing.T) {
	var h *host.Host
	h.Prime(1, 2)
	h.Prime()
	h.Hear(syn(2000, 80))
	h.Hear(api.Segment{})
	h.Tick()
	for _, n := range edges {
		for i, c := range calls() {
			if w, e := c.do(h, n); e != api.ErrNil || w != "" {
				t.Error(i, n, w, e)
			}
		}
		told(t, h.Listen(n), api.ErrNil)
		x, e := h.Connect(0, 1, n)
		y, f := h.Accept(n)
		if x != 0 || y != 0 || e != api.ErrNil || f != api.ErrNil {
			t.Error(x, e, y, f)
		}
		if s, is := h.State(n); s != 0 || is {
			t.Error(s, is)
		}
	}
	if h.Out() != nil || h.Handles() != nil || h.Tokens() != nil || h.Now() != 0 {
		t.Error(h.Out(), h.Handles(), h.Tokens(), h.Now())
	}
	counts(t, h, 0, 0)
}

// Keys that were primed are drawn first, in their order.
func TestPrime(t *testing.T) {
	h := listening(t, 1)
	h.Prime(7, 5)
	h.Prime()
	h.Prime(9)
	connects(t, h, 1)
	connects(t, h, 2)
	l := sends(t, h, "0:1025>1:80 S capable, 0:1026>1:80 S capable")
	if keyOf(t, l[0]) != 7 || keyOf(t, l[1]) != 5 {
		t.Error(l)
	}
	// Also for what comes.
	h.Hear(syn(2000, 80))
	l = sends(t, h, "0:80>1:2000 SA capable")
	if keyOf(t, l[0]) != 9 {
		t.Error(l)
	}
	tokens(t, h, live(7, 1), live(5, 2), live(9, 3))
	connects(t, h, 4)
	if k := keyOf(t, h.Out()[0]); k == 7 || k == 5 || k == 9 {
		t.Error(k)
	}
}

// drawn is the first n keys that a host draws by itself; behind each place of primed keys, one of these.
func drawn(t *testing.T, seed uint64, n int, primed ...int) []uint64 {
	t.Helper()
	h := host.New(seed)
	var l []uint64
	for i := 0; len(l) < n; i++ {
		own := !slices.Contains(primed, i)
		if !own {
			h.Prime(uint64(i))
		}
		x, e := h.Connect(0, 1, 80)
		ok(t, e)
		if k := keyOf(t, h.Out()[0]); own {
			l = append(l, k)
		} else if k != uint64(i) {
			t.Error(i, k)
		}
		h.Abort(x)
		ticks(10, h)
	}
	return l
}

func TestSeeds(t *testing.T) {
	seen := map[uint64]string{}
	words := map[uint32]bool{}
	for _, seed := range []uint64{0, 1, 2, 3, 4, 5, 6, 7, 1 << 32, 1<<32 + 1, 1 << 63, 1<<64 - 1, 1<<64 - 2} {
		l := drawn(t, seed, 20)
		for i, k := range l {
			// No seed draws what another one does, at another place neither.
			if was := seen[k]; was != "" || words[key.Token(k)] {
				t.Errorf("seed %d draws %d as number %d, like %s", seed, k, i, was)
			}
			seen[k], words[key.Token(k)] = fmt.Sprint(seed, i), true
		}
		// The same again; how many keys were primed in between is nothing to it.
		for _, primed := range [][]int{nil, {0}, {1, 2}, {0, 3, 4, 5, 9}} {
			if got := drawn(t, seed, 20, primed...); !slices.Equal(got, l) {
				t.Errorf("seed %d draws %v, not %v", seed, got, l)
			}
		}
	}
}

// Up to four keys are drawn, till the token of one can be taken.
func TestDrawn(t *testing.T) {
	for same := range 7 {
		h := host.New(1)
		h.Prime(7)
		connects(t, h, 1)
		for range same {
			h.Prime(7)
		}
		h.Prime(8, 9)
		if same > 3 {
			told(t, err(h.Connect(0, 1, 80)), api.ErrNone)
			tokens(t, h, live(7, 1))
			handles(t, h, 1)
		}
		// Those that were drawn no longer are primed.
		connects(t, h, 2)
		connects(t, h, 3)
		tokens(t, h, live(7, 1), live(8, 2), live(9, 3))
	}
	// Behind those that were primed, others are drawn.
	h := host.New(1)
	h.Prime(7)
	connects(t, h, 1)
	h.Prime(7, 7, 7)
	connects(t, h, 2)
	sends(t, h, "0:1025>1:80 S capable, 0:1026>1:80 S capable")
	own := drawn(t, 1, 1)[0]
	tokens(t, h, live(7, 1), live(own, 2))
	// One that is its own, and was drawn, isn't drawn again.
	two := drawn(t, 1, 2)
	g := host.New(1)
	g.Prime(two[0])
	connects(t, g, 1)
	connects(t, g, 2)
	tokens(t, g, live(two[0], 1), live(two[1], 2))
}

// A key whose token is quarantined is passed over, till that is over.
func TestQuarantine(t *testing.T) {
	h := host.New(1)
	ticks(5, h)
	h.Prime(7)
	connects(t, h, 1)
	ok(t, h.Abort(1))
	tokens(t, h, quarantined(7, 15))
	h.Prime(7, 8)
	connects(t, h, 2)
	tokens(t, h, quarantined(7, 15), live(8, 2))
	ticks(9, h)
	tokens(t, h, quarantined(7, 15), live(8, 2))
	h.Prime(7, 7, 7, 7)
	told(t, err(h.Connect(0, 1, 80)), api.ErrNone)
	ticks(1, h)
	tokens(t, h, live(8, 2))
	h.Prime(7)
	connects(t, h, 3)
	tokens(t, h, live(7, 3), live(8, 2))
}
