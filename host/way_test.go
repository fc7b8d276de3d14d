package host_test

import (
	"fmt"
	"slices"
	"strings"
	"testing"

	"ferrybridge/api"
	"ferrybridge/close"
	"ferrybridge/host"
	"ferrybridge/key"
	"ferrybridge/segment"
)

type dice uint64

func (d *dice) roll(n int) int {
	*d = *d*6364136223846793005 + 1442695040888963407
	return int(uint64(*d)>>33) % n
}

// end is what is known of a handle: of which port at the other side it is, where and when it came, if it did; what was written and read; its state.
type end struct {
	from, at, tick int
	came           bool
	wrote, read    string
	shut, ended    bool
	state          int
}

// site is a host, and what it must tell.
type site struct {
	*host.Host
	ends []*end // by the handles, from 1 on
	had  []int  // those that the application has, rising
	left []int  // those that it had
}

// run is two sites with a way between them, on which whatever happens.
type run struct {
	t *testing.T
	dice
	side [2]*site
	way  [2][]api.Segment // to each side
	tick int
	// again: few keys are primed, so that tokens are the same again and again; then what is read isn't looked at, as old segments may be of a key that is new.
	again bool
	log   strings.Builder
}

func newRun(t *testing.T, seed int) *run {
	t.Helper()
	r := &run{t: t, dice: dice(seed*7919 + 1)}
	for k := range r.side {
		r.side[k] = &site{Host: host.New(uint64(seed*2 + k)), ends: []*end{nil}}
		ok(t, r.side[k].Listen(80))
		ok(t, r.side[k].Listen(81))
	}
	r.again = r.roll(3) == 0
	return r
}

// letter is the byte that a handle of side k writes at a place.
func letter(k, handle, place int) byte {
	return byte('!' + (k*31+handle*7+place)%90)
}

// connect lets side k connect, and holds what it tells against what there is.
func (r *run) connect(k int) {
	s := r.side[k]
	own, other, port := r.roll(5)-r.roll(2), r.roll(4), 80+r.roll(3)
	conns, _, _ := s.Counts()
	want := []api.Errno{api.OK, api.ErrNone}
	switch {
	case own < 0 || own > 3:
		want = []api.Errno{api.ErrArg}
	case conns >= api.MaxConns:
		want = []api.Errno{api.ErrFull}
	case len(s.Tokens()) >= api.MaxTokens:
		want = []api.Errno{api.ErrTable}
	case !r.again:
		want = want[:1]
	}
	x, e := s.Connect(own, other, port)
	if !slices.Contains(want, e) || e != api.OK && x != 0 || e == api.OK && x != len(s.ends) {
		r.t.Errorf("side %d connects as %d, error %d, not %v", k, x, e, want)
	}
	if e == api.OK {
		s.ends = append(s.ends, &end{from: port})
		s.had = append(s.had, x)
	}
	fmt.Fprintln(&r.log, "connect", k, x, e)
}

// waiting is the handles that wait at a port, rising: those that have a token, and no application had.
func (s *site) waiting(port int) []int {
	var l []int
	for _, o := range s.owners() {
		if e := s.ends[o]; e.came && e.at == port && !slices.Contains(s.had, o) && !slices.Contains(s.left, o) {
			l = append(l, o)
		}
	}
	return l
}

// owners is the handles that have a token, rising.
func (s *site) owners() []int {
	var l []int
	for _, e := range s.Tokens() {
		if e.Live {
			l = append(l, e.Owner)
		}
	}
	slices.Sort(l)
	return l
}

func (r *run) accept(k int) {
	s := r.side[k]
	port := 80 + r.roll(3)
	x, err := 0, api.ErrWait
	if l := s.waiting(port); len(l) > 0 {
		x, err = l[0], api.OK
	}
	if port == 82 {
		err = api.ErrNone
	}
	got, e := s.Accept(port)
	if got != x || e != err {
		r.t.Errorf("side %d accepts %d, error %d, not %d, %d", k, got, e, x, err)
	}
	if e == api.OK {
		s.had = append(s.had, x)
		slices.Sort(s.had)
	}
	fmt.Fprintln(&r.log, "accept", k, got, e)
}

// others is what is known of the other side's handles of which x of side k may be the other end.
func (r *run) others(k, x int) []*end {
	e, s := r.side[k].ends[x], r.side[1-k]
	var l []*end
	for y, o := range s.ends {
		if o != nil && (e.came && !o.came && e.from == 1024+y || !e.came && o.came && o.from == 1024+x) {
			l = append(l, o)
		}
	}
	return l
}

func (r *run) read(k, x int) {
	b, e := r.side[k].Read(x, r.roll(20)-1)
	if e != api.OK && len(b) > 0 {
		r.t.Errorf("side %d reads %q, error %d", k, b, e)
	}
	fmt.Fprintln(&r.log, "read", k, x, string(b), e)
	if r.again || e == api.ErrNone {
		return
	}
	own := r.side[k].ends[x]
	own.read += string(b)
	own.ended = own.ended || e == api.ErrClosed
	fits := own.read == "" && !own.ended
	for _, o := range r.others(k, x) {
		fits = fits || strings.HasPrefix(o.wrote, own.read) && (!own.ended || o.shut && own.read == o.wrote)
	}
	if !fits {
		r.t.Fatalf("%d of side %d reads %q, end %t", x, k, own.read, own.ended)
	}
}

// call lets side k do something with a handle, which may be none.
func (r *run) call(k int) {
	s := r.side[k]
	x := r.roll(len(s.ends)+2) - 1
	if len(s.had) > 0 && r.roll(8) > 0 {
		x = s.had[r.roll(len(s.had))]
	}
	is := slices.Contains(s.had, x)
	if !is {
		none(r.t, s.Host, x)
		return
	}
	switch n := r.roll(100); {
	case n < 40:
		var b []byte
		for range r.roll(12) {
			b = append(b, letter(k, x, len(s.ends[x].wrote)+len(b)))
		}
		m, e := s.Write(x, b)
		s.ends[x].wrote += string(b[:m])
		fmt.Fprintln(&r.log, "write", k, x, m, e)
	case n < 75:
		r.read(k, x)
	case n < 81:
		fmt.Fprintln(&r.log, "tell", k, x, s.Tell(x, r.roll(5)))
	case n < 88:
		own := r.roll(4)
		fmt.Fprintln(&r.log, "tell", k, x, s.Tell(x, own))
		for other := range 4 {
			fmt.Fprintln(&r.log, "join", k, x, s.Join(x, own, other, r.roll(2) == 0))
		}
	case n < 90:
		fmt.Fprintln(&r.log, "set", k, x, s.Set(x, r.roll(4)))
	case n < 93:
		e := s.Shutdown(x)
		s.ends[x].shut = s.ends[x].shut || e == api.OK
		fmt.Fprintln(&r.log, "shutdown", k, x, e)
	case n < 96:
		r.leave(k, x, false)
	case n < 97 || r.again:
		r.leave(k, x, true)
	}
}

// leave lets side k close a handle, or abort it; it is none any more.
func (r *run) leave(k, x int, abort bool) {
	s := r.side[k]
	r.collect()
	call := s.Close
	if abort {
		call = s.Abort
	}
	e := call(x)
	if over := s.ends[x].state == api.CClosed; e != api.OK && !(over && abort && e == api.ErrTwice) {
		r.t.Errorf("side %d leaves %d, error %d", k, x, e)
	}
	s.ends[x].shut = s.ends[x].shut || !abort
	s.had = slices.DeleteFunc(s.had, func(y int) bool { return x == y })
	s.left = append(s.left, x)
	fmt.Fprintln(&r.log, "leave", k, x, abort, e)
	if r.roll(2) == 0 {
		r.collect()
		none(r.t, s.Host, x)
	}
}

// collect puts what each side has to send on its way.
func (r *run) collect() {
	for k, s := range r.side {
		for _, x := range s.Out() {
			if !segment.Right(x) {
				r.t.Errorf("side %d sends %+v", k, x)
			}
			fmt.Fprintln(&r.log, k, "sends", words(x), x.Seq, x.Ack)
			r.way[1-k] = append(r.way[1-k], x)
		}
		if len(r.way[1-k]) > 60 {
			r.way[1-k] = r.way[1-k][20:]
		}
	}
}

// comes lets side k hear a segment, and notes which handle it makes.
func (r *run) comes(k int, x api.Segment) {
	s := r.side[k]
	conns, _, _ := s.Counts()
	waits := len(s.waiting(x.DPort))
	s.Hear(x)
	if now, _, _ := s.Counts(); now > conns {
		if conns >= api.MaxConns || waits >= api.MaxBacklog || !x.Syn || x.Acks || x.DPort != 80 && x.DPort != 81 {
			r.t.Errorf("side %d: %s makes a connection", k, words(x))
		}
		s.ends = append(s.ends, &end{from: x.SPort, at: x.DPort, tick: r.tick, came: true})
	}
}

// deliver lets one of those on their way to side k come, or be lost, or come and stay.
func (r *run) deliver(k int) {
	if len(r.way[k]) == 0 {
		return
	}
	place := 0
	if r.roll(3) == 0 {
		place = r.roll(len(r.way[k]))
	}
	x := r.way[k][place]
	how := r.roll(20)
	if how > 0 {
		r.way[k] = slices.Delete(r.way[k], place, place+1)
	}
	if how != 1 {
		r.comes(k, x)
	}
}

// wrong lets side k hear something that nobody sent.
func (r *run) wrong(k int) {
	x := api.Segment{
		Src: r.roll(5), Dst: r.roll(4), SPort: 1024 + r.roll(8), DPort: 80 + r.roll(3), Seq: uint32(r.roll(1 << 30)), Win: r.roll(40),
		Syn: r.roll(2) == 0, Acks: r.roll(3) == 0, Fin: r.roll(5) == 0, Rst: r.roll(3) == 0,
	}
	switch r.roll(4) {
	case 0:
		x.Opts = []api.Option{{Kind: api.Join, Token: key.Token(uint64(r.roll(9))), Nonce: 5, Addr: x.Src & 3}}
	case 1:
		x.Opts = []api.Option{{Kind: api.Fast, Key: 12345}}
	case 2:
		x.Opts = []api.Option{{Kind: api.JoinEnd, Mac: 5}}
	}
	r.comes(k, x)
}

// look holds all that both sides tell against what they must.
func (r *run) look() {
	for k, s := range r.side {
		conns, legs, timers := s.Counts()
		if conns > api.MaxConns || legs < 0 || legs > conns*api.MaxFlows || timers < 0 || s.Now() != r.tick {
			r.t.Errorf("side %d: %d connections, %d legs, %d timers, at %d", k, conns, legs, timers, s.Now())
		}
		if !slices.Equal(s.Handles(), s.had) {
			r.t.Errorf("side %d: the handles are %v, not %v", k, s.Handles(), s.had)
		}
		over := r.states(k)
		r.table(k, conns-over)
		for _, port := range []int{80, 81} {
			l := s.waiting(port)
			if len(l) > api.MaxBacklog || len(l) > 0 && r.tick-s.ends[l[0]].tick >= api.Linger {
				r.t.Errorf("side %d: at %d %v wait", k, r.tick, l)
			}
		}
	}
}

// states holds the states of side k's handles against the moves, and who has a token; it answers how many are over.
func (r *run) states(k int) int {
	s := r.side[k]
	over := 0
	for x, e := range s.ends {
		state, is := s.State(x)
		if is != slices.Contains(s.had, x) || !is && state != 0 {
			r.t.Errorf("side %d: the state of %d is %d, %t", k, x, state, is)
		}
		if !is {
			continue
		}
		if !leads(e.state, state) {
			r.t.Errorf("side %d: %d goes from %d to %d", k, x, e.state, state)
		}
		e.state = state
		if state == api.CClosed {
			over++
		}
		if slices.Contains(s.owners(), x) == (state == api.CClosed) {
			r.t.Errorf("side %d: %d is in %d, the tokens are of %v", k, x, state, s.owners())
		}
	}
	return over
}

// leads tells whether moves lead from one state to another one.
func leads(from, to int) bool {
	seen := []int{from}
	for i := 0; i < len(seen); i++ {
		for event := api.EOpen; event <= api.EAbort; event++ {
			if next, is := close.Step(seen[i], event); is && !slices.Contains(seen, next) {
				seen = append(seen, next)
			}
		}
	}
	return slices.Contains(seen, to)
}

// table holds side k's entries against how many connections aren't over.
func (r *run) table(k, living int) {
	s := r.side[k]
	l := s.Tokens()
	if len(l) > api.MaxTokens || len(s.owners()) != living {
		r.t.Errorf("side %d: %d connections aren't over, %v", k, living, l)
	}
	for i, e := range l {
		switch {
		case i > 0 && e.Token <= l[i-1].Token, e.Live && (e.Owner < 1 || e.Owner >= len(s.ends) || e.Until != 0):
			r.t.Errorf("side %d: %v", k, l)
		case !e.Live && (e.Owner != 0 || e.Until <= r.tick || e.Until > r.tick+api.Quarantine):
			r.t.Errorf("side %d at %d: %v", k, r.tick, l)
		}
	}
	owners := s.owners()
	if len(slices.Compact(slices.Clone(owners))) != len(owners) {
		r.t.Errorf("side %d: %v", k, l)
	}
}

func (r *run) ticks() {
	r.tick++
	for _, s := range r.side {
		s.Tick()
	}
}

func (r *run) step() {
	k := r.roll(2)
	switch n := r.roll(100); {
	case n < 4:
		r.connect(k)
	case n < 9:
		r.accept(k)
	case n < 40:
		r.call(k)
	case n < 86:
		r.deliver(k)
	case n < 88:
		r.wrong(k)
	case n < 90 && r.again:
		r.side[k].Prime(uint64(r.roll(9)))
	case n >= 92:
		r.ticks()
	}
	r.collect()
	r.look()
}

// finish closes all handles; within 250 ticks nothing is left.
func (r *run) finish() {
	how := r.roll(4)
	for left := 250; left > 0; left-- {
		for k, s := range r.side {
			for _, x := range slices.Clone(s.had) {
				r.leave(k, x, how == 3)
			}
			// What is still on its way comes at last, by then: a Syn makes a connection.
			for n := len(r.way[k]); n > 0 && left > 50; n-- {
				x := r.way[k][0]
				r.way[k] = r.way[k][1:]
				switch {
				case how == 0:
				case how == 1 && r.roll(2) == 0:
					r.way[k] = append(r.way[k], x)
				default:
					r.comes(k, x)
				}
			}
		}
		r.collect()
		r.ticks()
		r.collect()
		r.look()
	}
	for k, s := range r.side {
		conns, legs, timers := s.Counts()
		if conns+legs+timers+len(s.Tokens())+len(s.Handles()) != 0 {
			r.t.Errorf("side %d: %s", k, about(s.Host))
		}
	}
}

func TestRuns(t *testing.T) {
	var reads, ends, came, joins, refused int
	reached := [9]int{}
	for seed := range 250 {
		r := newRun(t, seed)
		for range 1200 {
			r.step()
			for _, s := range r.side {
				for _, x := range s.had {
					reached[s.ends[x].state]++
				}
			}
		}
		r.finish()
		for _, s := range r.side {
			for _, e := range s.ends[1:] {
				reads += len(e.read)
				if e.ended {
					ends++
				}
				if e.came {
					came++
				}
			}
		}
		joins += strings.Count(r.log.String(), "SA joinback")
		refused += strings.Count(r.log.String(), " AR ")
		if t.Failed() {
			t.Fatalf("seed %d", seed)
		}
	}
	// They must have come somewhere.
	if reads < 10000 || ends < 100 || came < 1000 || joins < 500 || refused < 1000 {
		t.Error(reads, ends, came, joins, refused)
	}
	for state, many := range reached {
		if many < 100 {
			t.Error(state, many)
		}
	}
}

// The same calls have the same answers.
func TestRunsAgain(t *testing.T) {
	told := func(seed int) string {
		r := newRun(t, seed)
		for range 600 {
			r.step()
		}
		r.finish()
		return r.log.String()
	}
	for seed := range 20 {
		if told(seed) != told(seed) {
			t.Errorf("seed %d: it isn't the same twice", seed)
		}
	}
}
