package conn_test

import (
	"fmt"
	"strings"
	"testing"

	"ferrybridge/api"
	"ferrybridge/close"
	"ferrybridge/segment"
)

type dice uint64

func (d *dice) roll(n int) int {
	*d = *d*6364136223846793005 + 1442695040888963407
	return int(uint64(*d)>>33) % n
}

// run is two sides with a way between them, on which whatever happens, and what each was told.
type run struct {
	*duo
	dice
	resets      bool // what is nobody's is reset
	wrote, read [2]string
	shut, ended [2]bool // told its end; was told the other one's
	closed      [2]bool
	stood       [2]int
	failed      [2]api.Errno
	log         strings.Builder
}

func newRun(t *testing.T, seed int) *run {
	t.Helper()
	r := &run{duo: begin(t), dice: dice(seed*7919 + 1)}
	r.resets = r.roll(2) == 0
	return r
}

// comes lets side k hear a segment; what is nobody's is reset, as a host does.
func (r *run) comes(k int, s api.Segment) {
	c := r.side[k]
	if c.Mine(s) {
		c.Hear(s, r.tick)
		return
	}
	if c.Hear(s, r.tick) {
		r.t.Errorf("side %d hears %s", k, words(s))
	}
	if c.Joined(s, r.tick) == api.OK || !r.resets || s.Rst {
		return
	}
	x := segment.Reply(s)
	x.Rst, x.Acks, x.Seq, x.Ack = true, true, s.Ack, s.Seq+uint32(segment.Long(s))
	r.way[1-k] = append(r.way[1-k], x)
}

// ticks lets time go on by so many ticks, at once.
func (r *run) ticks(n int) {
	r.tick += n
	for _, c := range r.side {
		c.Tick(r.tick)
	}
}

// write lets side k write, and holds what it is told against its state.
func (r *run) write(k, n int) {
	c := r.side[k]
	b := []byte(alphabet(len(r.wrote[k]), n))
	got, e := c.Write(b, r.tick)
	want := []api.Errno{c.Err()}
	switch {
	case c.Err() != api.OK:
	case c.State() == api.CInit:
		want = []api.Errno{api.ErrWait}
	case r.closed[k] || !close.Writes(c.State()):
		want = []api.Errno{api.ErrClosed}
	default:
		want = []api.Errno{api.OK, api.ErrFull}
	}
	if !contains(want, e) || e != api.OK && got != 0 || got < 0 || got > n || e == api.ErrFull && n == 0 {
		r.t.Errorf("%s writes %d: %d, error %d", stands(c), n, got, e)
	}
	r.wrote[k] += string(b[:got])
	fmt.Fprintln(&r.log, "write", k, n, got, e)
}

func contains(l []api.Errno, e api.Errno) bool {
	for _, x := range l {
		if x == e {
			return true
		}
	}
	return false
}

// reading lets side k read, and holds what it is told against what the other one wrote.
func (r *run) reading(k, most int) {
	c := r.side[k]
	b, e := c.Read(most, r.tick)
	want := []api.Errno{c.Err()}
	switch {
	case c.Err() != api.OK:
	case r.closed[k]:
		want = []api.Errno{api.ErrClosed}
	case c.State() == api.CInit:
		want = []api.Errno{api.ErrWait}
	default:
		want = []api.Errno{api.OK, api.ErrWait, api.ErrClosed}
	}
	if !contains(want, e) || e != api.OK && len(b) > 0 || len(b) > max(most, 0) {
		r.t.Errorf("%s reads %d: %q, error %d", stands(c), most, b, e)
	}
	r.read[k] += string(b)
	if !strings.HasPrefix(r.wrote[1-k], r.read[k]) {
		r.t.Fatalf("side %d reads %q of %q", k, r.read[k], r.wrote[1-k])
	}
	if e == api.ErrClosed && !r.closed[k] {
		r.ended[k] = true
		if r.read[k] != r.wrote[1-k] || !r.shut[1-k] {
			r.t.Fatalf("side %d is told the end behind %d of %d, %t", k, len(r.read[k]), len(r.wrote[1-k]), r.shut[1-k])
		}
	}
	fmt.Fprintln(&r.log, "read", k, most, len(b), e)
}

// end lets side k shut down, close or abort.
func (r *run) end(k int, how string) {
	c := r.side[k]
	was, failed := c.State(), c.Err()
	var e, want api.Errno
	switch how {
	case "shutdown":
		e, want = c.Shutdown(r.tick), api.OK
		if failed != api.OK {
			want = failed
		} else if !close.Writes(was) {
			want = api.ErrState
		}
		r.shut[k] = r.shut[k] || e == api.OK
	case "close":
		e = c.Close(r.tick)
		if r.closed[k] {
			want = api.ErrTwice
		}
		r.shut[k] = r.shut[k] || e == api.OK
		r.closed[k] = true
	case "abort":
		e = c.Abort(r.tick)
		if was == api.CClosed {
			want = api.ErrTwice
		} else if c.Err() != api.ErrAbort {
			r.t.Errorf("aborted: %s", stands(c))
		}
	}
	if e != want {
		r.t.Errorf("%s in %s: %d, not %d", how, states[was], e, want)
	}
	fmt.Fprintln(&r.log, how, k, e)
}

// look holds each side against what it always is.
func (r *run) look() {
	r.t.Helper()
	r.collect()
	for k, c := range r.side {
		state := c.State()
		if !leads(r.stood[k], state) {
			r.t.Errorf("side %d goes from %s to %s", k, states[r.stood[k]], states[state])
		}
		r.stood[k] = state
		over := state == api.CClosed
		if c.Over() != over || over && (c.Legs() != 0 || c.Timers() != 0) || !over && c.Err() != api.OK || c.Legs() < 0 || c.Legs() > 8 {
			r.t.Errorf("side %d: %s, %d timers", k, stands(c), c.Timers())
		}
		if r.failed[k] != api.OK && c.Err() != r.failed[k] {
			r.t.Errorf("side %d failed by %d, and by %d now", k, r.failed[k], c.Err())
		}
		if state < api.CTimeWait && c.Legs() == 0 {
			r.t.Errorf("side %d: %s", k, stands(c))
		}
		if over && c.Err() == api.OK && !r.shut[k] {
			r.t.Errorf("side %d is over, and never told its end", k)
		}
		r.failed[k] = c.Err()
		fmt.Fprintln(&r.log, k, stands(c), c.Timers(), len(r.way[k]))
	}
}

// leads tells whether moves lead from one state to another one: none, one or more.
func leads(from, to int) bool {
	reached := [9]bool{}
	reached[from] = true
	for range 9 {
		for s := range 9 {
			for event := api.EOpen; reached[s] && event <= api.EAbort; event++ {
				next, _ := close.Step(s, event)
				reached[next] = true
			}
		}
	}
	return reached[to]
}

// step does one of all that there is.
func (r *run) step(gentle bool) {
	k := r.roll(2)
	c := r.side[k]
	switch n := r.roll(100); {
	case n < 45 && len(r.way[k]) > 0:
		// One of those that are on their way comes, is lost, or comes and stays.
		i := 0
		if r.roll(3) == 0 {
			i = r.roll(len(r.way[k]))
		}
		s := r.way[k][i]
		what := r.roll(10)
		if what > 0 {
			r.way[k] = append(r.way[k][:i:i], r.way[k][i+1:]...)
		}
		if what != 1 {
			r.comes(k, s)
		}
	case n < 55:
		r.ticks(r.roll(4))
	case n < 67:
		r.write(k, r.roll(30))
	case n < 80:
		r.reading(k, r.roll(40)-2)
	case n < 84:
		c.Tell(r.roll(6)-1, r.tick)
	case n < 90:
		c.Join(r.roll(6)-1, r.roll(6)-1, r.roll(4) == 0, r.tick)
	case n < 92:
		c.Set(r.roll(5) - 1)
	case n < 94:
		r.wrong(k)
	case gentle:
	case n < 96:
		r.end(k, "shutdown")
	case n == 96 && r.roll(5) == 0:
		r.end(k, "close")
	case n == 97 && r.roll(20) == 0:
		r.end(k, "abort")
	}
	r.look()
}

// wrong lets side k hear something with a wrong key, token or proof.
func (r *run) wrong(k int) {
	s := api.Segment{Src: r.roll(4), Dst: r.roll(4), SPort: ports[1-k], DPort: ports[k], Seq: uint32(r.roll(1 << 30)), Acks: r.roll(2) == 0}
	switch r.roll(3) {
	case 0:
		s.Rst, s.Opts = true, []api.Option{{Kind: api.Fast, Key: keys[1-k]}}
	case 1:
		s.Syn, s.Opts = true, []api.Option{{Kind: api.Join, Token: r.side[1-k].Token(), Nonce: 5, Addr: s.Src}}
	case 2:
		if len(r.way[k]) == 0 {
			return
		}
		s = r.way[k][r.roll(len(r.way[k]))]
		s.Opts = append([]api.Option{}, s.Opts...)
		for i, o := range s.Opts {
			if o.Kind == api.JoinBack || o.Kind == api.JoinEnd {
				s.Opts[i].Mac += uint64(1 + r.roll(9))
			}
		}
	}
	r.comes(k, s)
}

// finish closes, or aborts, both sides, and lets at most 150 ticks go by.
func (r *run) finish() {
	for k := range r.side {
		if !r.closed[k] {
			r.end(k, []string{"close", "close", "abort"}[r.roll(3)])
		}
	}
	lossy := r.roll(3)
	for range 150 {
		r.look()
		for k := range r.way {
			l := r.way[k]
			r.way[k] = nil
			for _, s := range l {
				if lossy == 0 || lossy == 1 && r.roll(2) == 0 {
					r.comes(k, s)
				}
			}
		}
		r.ticks(1)
	}
	r.look()
	for k, c := range r.side {
		if !c.Over() {
			r.t.Errorf("side %d: %s", k, stands(c))
		}
	}
}

func TestRuns(t *testing.T) {
	var reads, ends, legs int
	reached := [9]int{}
	for seed := range 300 {
		r := newRun(t, seed)
		gentle := 100 + r.roll(500)
		for i := range 800 {
			r.step(i < gentle)
			legs += r.side[0].Legs()
			reached[r.side[0].State()]++
		}
		r.finish()
		for k := range r.side {
			reads += len(r.read[k])
			if r.ended[k] {
				ends++
			}
		}
		if t.Failed() {
			t.Fatalf("seed %d", seed)
		}
	}
	// They must have come somewhere.
	if reads < 20000 || ends < 20 || legs < 200000 {
		t.Error(reads, ends, legs)
	}
	for state, many := range reached {
		if many < 100 {
			t.Error(states[state], many)
		}
	}
}

// The same calls have the same answers.
func TestRunsTwice(t *testing.T) {
	for seed := range 20 {
		var logs [2]string
		for i := range logs {
			r := newRun(t, seed)
			for range 600 {
				r.step(false)
				// Asking changes nothing.
				for n := range 3 * i {
					c := r.side[n%2]
					_, _, _, _, _, _ = c.State(), c.Err(), c.Token(), c.Legs(), c.Timers(), c.Over()
					c.Mine(api.Segment{Src: n, Dst: 1 - n})
				}
			}
			r.finish()
			logs[i] = r.log.String()
		}
		if logs[0] != logs[1] {
			t.Fatalf("seed %d", seed)
		}
	}
}

// forged is a segment of which anything may be so or otherwise.
func (r *run) forged(k int) api.Segment {
	s := api.Segment{Src: 1 - k, Dst: k, SPort: ports[1-k], DPort: ports[k]}
	if l := r.way[k]; len(l) > 0 && r.roll(2) == 0 {
		s = l[r.roll(len(l))]
		s.Opts, s.Data = append([]api.Option{}, s.Opts...), append([]byte{}, s.Data...)
	}
	for range r.roll(4) {
		n := []int{-1, 0, 1, 2, 3, 4, 8, 9, 31, 32, 33, 34, 65535, 65536, 1 << 32}[r.roll(15)]
		switch r.roll(14) {
		case 0:
			s.Src, s.Dst = r.roll(4), r.roll(4)
		case 1:
			s.Seq += uint32(n)
		case 2:
			s.Ack += uint32(n)
		case 3:
			s.Syn = !s.Syn
		case 4:
			s.Acks = !s.Acks
		case 5:
			s.Fin = !s.Fin
		case 6:
			s.Rst = r.roll(6) == 0
		case 7:
			s.Win = n
		case 8:
			s.Data = make([]byte, r.roll(10))
		case 9:
			s.Opts = nil
		case 10:
			s.Opts = append(s.Opts, api.Option{Kind: r.roll(13), Addr: r.roll(6), Key: keys[r.roll(2)], HasAck: r.roll(2) == 0, Ack: n, HasMap: r.roll(2) == 0, Dsn: r.roll(70), Len: r.roll(10), Fin: r.roll(4) == 0})
		case 11:
			s.Opts = append(s.Opts, api.Option{Kind: api.Join, Token: r.side[k].Token(), Nonce: uint32(n), Backup: r.roll(2) == 0})
			s.Syn, s.Acks = true, false
		case 12:
			if len(s.Opts) > 0 {
				s.Opts[0].Dsn, s.Opts[0].Fin = r.roll(80), r.roll(4) == 0
			}
		}
	}
	return s
}

// Whatever comes, also what no side ever sends: nothing panics, states follow their moves, and behind Close or Abort both are over.
func TestWhateverComes(t *testing.T) {
	for seed := range 300 {
		d := begin(t)
		r := &run{duo: d, dice: dice(seed*104729 + 5)}
		for range 500 {
			k := r.roll(2)
			c := r.side[k]
			switch n := r.roll(20); {
			case n < 9:
				r.hear(k, r.forged(k))
			case n < 13:
				if len(r.way[k]) > 0 {
					s := r.way[k][0]
					r.way[k] = r.way[k][1:]
					r.comes(k, s)
				}
			case n < 15:
				r.ticks(r.roll(3))
			case n < 16:
				c.Write(make([]byte, r.roll(40)), r.tick)
			case n < 17:
				c.Read(r.roll(40), r.tick)
			case n < 18:
				c.Join(r.roll(4), r.roll(4), false, r.tick)
			case n < 19:
				c.Tell(r.roll(4), r.tick)
			case r.roll(10) == 0:
				r.shut[k] = c.Shutdown(r.tick) == api.OK || r.shut[k]
			}
			r.look()
		}
		for k, c := range r.side {
			if c.Close(r.tick) != api.OK {
				t.Error(stands(c))
			}
			r.shut[k] = true
		}
		for range 150 {
			for k := range r.side {
				r.hear(k, r.forged(k))
			}
			r.look()
			r.ticks(1)
		}
		for k, c := range r.side {
			if !c.Over() {
				t.Errorf("side %d: %s", k, stands(c))
			}
		}
		if t.Failed() {
			t.Fatalf("seed %d", seed)
		}
	}
}

// late is a segment that comes to a side at a tick.
type late struct {
	at, to int
	s      api.Segment
}

// through is a run in which all on the first path comes within a few ticks, while another one may lose all; both write, tell their ends, and read.
type through struct {
	*run
	delay    int
	ordered  bool
	lostFrom int
	way      []late
	total    [2]int
}

// lost tells whether s is: of the path of the address 2, from some tick on.
func (r *through) lost(s api.Segment) bool {
	return r.tick >= r.lostFrom && (s.Src == 2 || s.Dst == 2)
}

// apply lets both sides do what they have to do at this tick.
func (r *through) apply(joinAt int) {
	for k, c := range r.side {
		c.Tick(r.tick)
		if r.tick == joinAt && k == 0 {
			c.Tell(2, r.tick)
			c.Join(2, 1, r.roll(4) == 0, r.tick)
		}
		if r.tick == joinAt+4 && k == 1 {
			c.Join(1, 2, false, r.tick)
		}
		if left := r.total[k] - len(r.wrote[k]); left > 0 && r.roll(2) == 0 {
			r.write(k, min(left, r.roll(40)))
		}
		if len(r.wrote[k]) == r.total[k] && !r.shut[k] && c.State() != api.CInit {
			r.end(k, "shutdown")
		}
		if r.roll(3) == 0 {
			r.reading(k, r.roll(50))
		}
	}
}

// carry lets come what is to come at this tick.
func (r *through) carry() {
	for range 50 {
		r.look()
		for k := range r.run.way {
			for _, s := range r.run.way[k] {
				at := r.tick + r.delay
				if !r.ordered {
					at = r.tick + r.roll(r.delay+1)
				}
				if !r.lost(s) {
					r.way = append(r.way, late{at, k, s})
				}
			}
			r.run.way[k] = nil
		}
		var rest []late
		moved := false
		for _, p := range r.way {
			if p.at > r.tick {
				rest = append(rest, p)
				continue
			}
			moved = true
			r.comes(p.to, p.s)
		}
		r.way = rest
		if !moved {
			return
		}
	}
}

func TestThrough(t *testing.T) {
	for seed := range 400 {
		r := &through{run: newRun(t, seed)}
		r.delay, r.ordered, r.lostFrom = r.roll(4), r.roll(2) == 0, []int{1000, r.roll(60), 0}[r.roll(3)]
		r.total = [2]int{r.roll(200), r.roll(200)}
		for k := range r.side {
			r.side[k].Set(r.roll(3))
		}
		joinAt := 8 + r.roll(40)
		for r.tick = 0; r.tick < 700 && !(r.side[0].Over() && r.side[1].Over() && r.ended[0] && r.ended[1]); r.tick++ {
			r.apply(joinAt)
			r.carry()
		}
		for k, c := range r.side {
			if !c.Over() || c.Err() != api.OK || r.read[k] != r.wrote[1-k] || len(r.wrote[k]) != r.total[k] || !r.ended[k] {
				t.Fatalf("seed %d, delay %d, lost from %d: side %d %s, read %d of %d, ended %t", seed, r.delay, r.lostFrom, k, stands(c), len(r.read[k]), len(r.wrote[1-k]), r.ended[k])
			}
		}
	}
}
