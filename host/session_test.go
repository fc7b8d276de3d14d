package host_test

import (
	"fmt"
	"testing"

	"ferrybridge/api"
	"ferrybridge/host"
)

// TestSession is what the document's examples of the whole tell of two hosts, with a net of which always the first packet comes.
func TestSession(t *testing.T) {
	side := [2]*host.Host{listening(t, 1), listening(t, 2)}
	var packets []api.Segment
	var to []int
	collect := func() {
		for k, h := range side {
			for _, s := range h.Out() {
				packets, to = append(packets, s), append(to, 1-k)
			}
		}
	}
	deliver := func(left int) {
		t.Helper()
		collect()
		s, k := packets[0], to[0]
		packets, to = packets[1:], to[1:]
		side[k].Hear(s)
		collect()
		if len(packets) != left {
			t.Errorf("%d packets, not %d", len(packets), left)
		}
	}
	counted := func(k int) string {
		conns, legs, timers := side[k].Counts()
		return fmt.Sprint(conns, legs, timers, len(side[k].Tokens()))
	}
	connects(t, side[0], 1)
	state(t, side[0], 1, 0)
	deliver(1)
	accepts(t, side[1], 1, api.OK)
	accepts(t, side[1], 0, api.ErrWait)
	deliver(1)
	deliver(0)
	state(t, side[0], 1, 1)
	state(t, side[1], 1, 1)
	state(t, side[1], 2, -1)
	writes(t, side[0], 1, "\x00\x01\x02")
	reads(t, side[1], 1, "", api.ErrWait)
	deliver(1)
	reads(t, side[1], 1, "\x00\x01\x02", api.OK)
	deliver(0)
	reads(t, side[1], 1, "", api.ErrWait)
	reads(t, side[1], 2, "", api.ErrNone)
	if n, e := side[0].Write(9, []byte("x")); n != 0 || e != api.ErrNone {
		t.Error(n, e)
	}
	for k := range side {
		if got := counted(k); got != "1 1 1 1" {
			t.Error(k, got)
		}
	}
	told(t, err(side[0].Connect(4, 1, 80)), api.ErrArg)
	ok(t, side[0].Shutdown(1))
	state(t, side[0], 1, 2)
	if n, e := side[0].Write(1, []byte("x")); n != 0 || e != api.ErrClosed {
		t.Error(n, e)
	}
	deliver(1)
	state(t, side[1], 1, 4)
	deliver(0)
	state(t, side[0], 1, 3)
	reads(t, side[1], 1, "", api.ErrClosed)
	ok(t, side[1].Abort(1))
	state(t, side[1], 1, -1)
	deliver(0)
	reads(t, side[0], 1, "", api.ErrReset)
	for n := 1; n <= 10; n++ {
		for k, h := range side {
			if got := counted(k); got == "0 0 0 0" {
				t.Errorf("nothing is left of side %d ahead of tick %d", k, n)
			}
			for _, x := range h.Handles() {
				ok(t, h.Close(x))
			}
		}
		side[0].Tick()
		side[1].Tick()
	}
	for k := range side {
		if got := counted(k); got != "0 0 0 0" {
			t.Error(k, got)
		}
	}
}

// W4: where all comes within a few ticks all is read, both ends are told, and no error, also where another path loses all.
func TestThrough(t *testing.T) {
	for _, lossy := range []bool{false, true} {
		for late := range 4 {
			side := [2]*host.Host{host.New(1), listening(t, 2)}
			connects(t, side[0], 1)
			on := map[int][]func(){}
			wrote, read, ended := [2]int{}, [2]int{}, [2]bool{}
			for tick := range 400 {
				for _, come := range on[tick] {
					come()
				}
				for k, h := range side {
					if tick == 20 && k == 0 && lossy {
						ok(t, h.Tell(1, 2))
						ok(t, h.Join(1, 2, 1, false))
					}
					if k == 1 {
						h.Accept(80)
					}
					if wrote[k] < 500 {
						n, _ := h.Write(1, make([]byte, min(20, 500-wrote[k])))
						wrote[k] += n
					} else if s, _ := h.State(1); s == api.COpen || s == api.CCloseWait {
						ok(t, h.Shutdown(1))
					}
					b, e := h.Read(1, 20)
					read[k] += len(b)
					ended[k] = ended[k] || e == api.ErrClosed
					if e != api.OK && e != api.ErrWait && e != api.ErrClosed && (e != api.ErrNone || tick > 10) {
						t.Fatalf("at %d side %d: error %d", tick, k, e)
					}
					for _, s := range h.Out() {
						if lossy && (s.Src == 2 || s.Dst == 2) && tick > 40 {
							continue
						}
						on[tick+1+late] = append(on[tick+1+late], func() { side[1-k].Hear(s) })
					}
				}
				side[0].Tick()
				side[1].Tick()
			}
			if read != [2]int{500, 500} || ended != [2]bool{true, true} {
				t.Errorf("lossy %t, %d late: %v, %v", lossy, late, read, ended)
			}
			for _, h := range side {
				ok(t, h.Close(1))
				counts(t, h, 0, 0)
			}
		}
	}
}
