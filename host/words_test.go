package host_test

import (
	"fmt"
	"math"
	"slices"
	"strings"
	"testing"

	"ferrybridge/api"
	"ferrybridge/host"
	"ferrybridge/key"
	"ferrybridge/option"
	"ferrybridge/segment"
	"ferrybridge/token"
)

// edges are numbers at which something may turn.
var edges = []int{math.MinInt, math.MinInt + 1, -1 << 32, -1<<32 + 1, -1 << 31, -65536, -2, -1, 0, 1, 2, 3, 4, 5, 255, 256, 1023, 1024, 65534, 65535, 65536, 65537, 1<<31 - 1, 1 << 31, 1<<32 - 1, 1 << 32, 1<<32 + 1, 1<<32 + 80, math.MaxInt - 1, math.MaxInt}

// peerKey is the key of who dials in these tests by segments alone.
const peerKey = 0xf1f2f3f4f5f6f7f8

// words tells what matters of a segment: addresses and ports, flags, and what it has.
func words(s api.Segment) string {
	flags := ""
	for i, is := range []bool{s.Syn, s.Acks, s.Fin, s.Rst} {
		if is {
			flags += "SAFR"[i : i+1]
		}
	}
	w := fmt.Sprintf("%d:%d>%d:%d %s", s.Src, s.SPort, s.Dst, s.DPort, flags)
	for _, o := range s.Opts {
		w += " " + []string{"?", "capable", "join", "joinback", "joinend", "dss", "add", "remove", "prio", "fail", "fast", "reset"}[o.Kind]
		if o.Kind == api.Dss && o.HasMap {
			w += fmt.Sprintf("#%d+%d", o.Dsn, o.Len)
		}
		if o.Fin {
			w += "F"
		}
	}
	if len(s.Data) > 0 {
		w += " " + string(s.Data)
	}
	return w
}

// all is the words of all segments.
func all(l []api.Segment) string {
	var w []string
	for _, s := range l {
		w = append(w, words(s))
	}
	return strings.Join(w, ", ")
}

// syn is a Syn with Capable, from a port at address 1 to one at address 0.
func syn(from, to int) api.Segment {
	return api.Segment{Src: 1, Dst: 0, SPort: from, DPort: to, Syn: true, Seq: 100, Opts: []api.Option{{Kind: api.Capable, Key: peerKey}}}
}

// reset is what resets s.
func reset(s api.Segment) api.Segment {
	n := uint32(len(s.Data))
	if s.Syn {
		n++
	}
	if s.Fin {
		n++
	}
	return api.Segment{Src: s.Dst, Dst: s.Src, SPort: s.DPort, DPort: s.SPort, Rst: true, Acks: true, Seq: s.Ack, Ack: s.Seq + n}
}

// sends holds all that h has to send against words.
func sends(t *testing.T, h *host.Host, want string) []api.Segment {
	t.Helper()
	l := h.Out()
	if got := all(l); got != want {
		t.Errorf("at %d it sends %q, not %q", h.Now(), got, want)
	}
	for _, s := range l {
		if !segment.Right(s) {
			t.Errorf("it sends %+v", s)
		}
	}
	return l
}

// resets holds that h resets s, and does nothing else.
func resets(t *testing.T, h *host.Host, s api.Segment) {
	t.Helper()
	was := about(h)
	h.Out()
	h.Hear(s)
	l := h.Out()
	if len(l) != 1 || !segment.Same(l[0], reset(s)) {
		t.Errorf("%s: it sends %+v, not %+v", words(s), l, reset(s))
	}
	if got := about(h); got != was {
		t.Errorf("%s: it was %s, and is %s", words(s), was, got)
	}
}

// connects lets h connect from 0 to port 80 at 1, and holds the handle against one.
func connects(t *testing.T, h *host.Host, want int) {
	t.Helper()
	if x, e := h.Connect(0, 1, 80); x != want || e != api.OK {
		t.Errorf("it connects as %d, error %d, not as %d", x, e, want)
	}
}

// accepts holds what Accept at port 80 tells.
func accepts(t *testing.T, h *host.Host, want int, err api.Errno) {
	t.Helper()
	if x, e := h.Accept(80); x != want || e != err {
		t.Errorf("at %d it accepts %d, error %d, not %d, %d", h.Now(), x, e, want, err)
	}
}

// ok holds an error against OK.
func ok(t *testing.T, e api.Errno) {
	t.Helper()
	told(t, e, api.OK)
}

func told(t *testing.T, e, want api.Errno) {
	t.Helper()
	if e != want {
		t.Errorf("error %d, not %d", e, want)
	}
}

// listening is a host that listens at port 80.
func listening(t *testing.T, seed uint64) *host.Host {
	t.Helper()
	h := host.New(seed)
	ok(t, h.Listen(80))
	return h
}

// ticks lets so many ticks pass, in which all that is sent is lost.
func ticks(n int, hosts ...*host.Host) {
	for range n {
		for _, h := range hosts {
			h.Tick()
			h.Out()
		}
	}
}

// flow lets all come, till nothing is on its way, and answers all that went.
func flow(t *testing.T, a, b *host.Host) []api.Segment {
	t.Helper()
	var went []api.Segment
	for range 1000 {
		l, m := a.Out(), b.Out()
		for _, s := range l {
			b.Hear(s)
		}
		for _, s := range m {
			a.Hear(s)
		}
		went = append(append(went, l...), m...)
		if len(l)+len(m) == 0 {
			return went
		}
	}
	t.Fatal("there is no end of it")
	return nil
}

// till lets so many ticks pass in which all comes.
func till(t *testing.T, n int, a, b *host.Host) {
	t.Helper()
	for range n {
		a.Tick()
		b.Tick()
		flow(t, a, b)
	}
}

// pair is two hosts of which the first one has connected, as 1, and the second one accepted, as 1.
func pair(t *testing.T) (*host.Host, *host.Host) {
	t.Helper()
	a, b := host.New(1), listening(t, 2)
	connects(t, a, 1)
	flow(t, a, b)
	accepts(t, b, 1, api.OK)
	for _, h := range []*host.Host{a, b} {
		state(t, h, 1, api.COpen)
	}
	return a, b
}

// state holds the state of a handle against one; a number below 0: there is no such handle.
func state(t *testing.T, h *host.Host, handle, want int) {
	t.Helper()
	got, is := h.State(handle)
	if is != (want >= 0) || got != max(want, 0) {
		t.Errorf("at %d the state of %d is %d, %t, not %d", h.Now(), handle, got, is, want)
	}
}

// writes lets h write a text, all of it.
func writes(t *testing.T, h *host.Host, handle int, text string) {
	t.Helper()
	if n, e := h.Write(handle, []byte(text)); n != len(text) || e != api.OK {
		t.Errorf("%d writes %d of %d, error %d", handle, n, len(text), e)
	}
}

// reads holds what h reads, at most 64 bytes, against a text and an error.
func reads(t *testing.T, h *host.Host, handle int, text string, err api.Errno) {
	t.Helper()
	if b, e := h.Read(handle, 64); string(b) != text || e != err {
		t.Errorf("%d reads %q, error %d, not %q, %d", handle, b, e, text, err)
	}
}

// handles holds those that applications have against some.
func handles(t *testing.T, h *host.Host, want ...int) {
	t.Helper()
	if got := h.Handles(); !slices.Equal(got, want) {
		t.Errorf("at %d the handles are %v, not %v", h.Now(), got, want)
	}
}

// counts holds how many connections and legs there are, and whether there are timers, against some.
func counts(t *testing.T, h *host.Host, conns, legs int) {
	t.Helper()
	if n, l, timers := h.Counts(); n != conns || l != legs || (timers > 0) != (legs > 0) {
		t.Errorf("at %d it has %d connections, %d legs, %d timers, not %d, %d", h.Now(), n, l, timers, conns, legs)
	}
}

// live is an entry of a key that is the handle's, quarantined one that is till a tick.
func live(k uint64, handle int) token.Entry {
	return token.Entry{Token: key.Token(k), Owner: handle, Live: true}
}

func quarantined(k uint64, until int) token.Entry {
	return token.Entry{Token: key.Token(k), Until: until}
}

// tokens holds the table against entries, in whichever order.
func tokens(t *testing.T, h *host.Host, want ...token.Entry) {
	t.Helper()
	slices.SortFunc(want, func(a, b token.Entry) int { return int(int64(a.Token) - int64(b.Token)) })
	if got := h.Tokens(); !slices.Equal(got, want) {
		t.Errorf("at %d the tokens are %v, not %v", h.Now(), got, want)
	}
}

// about is all that a host tells without being changed.
func about(h *host.Host) string {
	conns, legs, timers := h.Counts()
	w := fmt.Sprint(h.Now(), conns, legs, timers, h.Tokens(), h.Handles())
	for x := range 20 {
		n, is := h.State(x)
		w += fmt.Sprint(n, is)
	}
	return w
}

// keyOf is the key in a segment's Capable.
func keyOf(t *testing.T, s api.Segment) uint64 {
	t.Helper()
	o, is := option.Find(s.Opts, api.Capable)
	if !is {
		t.Errorf("%s has no key", words(s))
	}
	return o.Key
}

// dials lets the peer at address 1 dial a host's port 80 from a port, and opens it; it answers where the host's numbers go on.
func dials(t *testing.T, h *host.Host, from int) uint32 {
	t.Helper()
	h.Out()
	h.Hear(syn(from, 80))
	l := sends(t, h, fmt.Sprintf("0:80>1:%d SA capable", from))
	if len(l) != 1 || l[0].Ack != 101 {
		t.Fatal(l)
	}
	h.Hear(opening(from, l[0].Seq+1))
	return l[0].Seq + 1
}

// opening is what opens the connection that the Syn from a port made.
func opening(from int, ack uint32) api.Segment {
	return api.Segment{Src: 1, Dst: 0, SPort: from, DPort: 80, Seq: 101, Ack: ack, Acks: true, Win: 32, Opts: []api.Option{{Kind: api.Dss, HasAck: true}}}
}
