package flow_test

import (
	"bytes"
	"strings"
	"testing"

	"ferrybridge/api"
	"ferrybridge/flow"
)

// P14.3

// wire is what is between two flows: it loses, doubles and turns about as many of a hundred segments as it says.
type wire struct {
	*dice
	lose, double, turn int
	on                 []api.Segment
}

func (w *wire) put(l []api.Out) {
	for _, o := range l {
		if w.below(100) < w.lose {
			continue
		}
		s := api.Segment{Seq: o.Piece.Seq, Ack: o.Ack, Acks: o.Acks, Rst: o.Rst, Syn: o.Piece.Syn, Fin: o.Piece.Fin, Data: o.Piece.Data}
		for range 1 + btoi(w.below(100) < w.double) {
			w.on = append(w.on, s)
		}
	}
	for i := 1; i < len(w.on); i++ {
		if w.below(100) < w.turn {
			w.on[i-1], w.on[i] = w.on[i], w.on[i-1]
		}
	}
}

func btoi(is bool) int {
	if is {
		return 1
	}
	return 0
}

// some are those that come now: any number from the front on.
func (w *wire) some() []api.Segment {
	n := w.below(len(w.on) + 1)
	l := w.on[:n:n]
	w.on = w.on[n:]
	return l
}

// side is a flow, what it sent, piece by piece, and what came fresh to it; acked counts what it was told is acknowledged.
type side struct {
	*flow.Flow
	to    *wire
	sent  [][]byte
	came  [][]byte
	acked int
	fin   bool
	bad   []string
}

func (s *side) hear(x api.Segment, tick int) {
	was := s.State()
	h := s.Hear(x, tick)
	if h.Fresh && len(x.Data) > 0 {
		s.came = append(s.came, bytes.Clone(x.Data))
	}
	for _, p := range h.Acked {
		if len(p.Data) == 0 {
			continue
		}
		if s.acked >= len(s.sent) || !bytes.Equal(p.Data, s.sent[s.acked]) || p.Dsn != s.acked+1 {
			s.bad = append(s.bad, "acknowledged out of order")
		}
		s.acked++
	}
	if h.Fin && s.fin {
		s.bad = append(s.bad, "two Fins")
	}
	s.fin = s.fin || h.Fin
	if s.State() < was && was != api.FDead {
		s.bad = append(s.bad, "the state went back")
	}
}

// act sends a piece, or a Fin, if it may, as long as it has sent fewer than many.
func (s *side) act(many, tick int) {
	if len(s.Left()) >= 4 || s.State() != api.FOpen && s.State() != api.FCloseWait {
		return
	}
	if len(s.sent) == many {
		if s.to.one(3) {
			s.Close(tick)
		}
		return
	}
	if data := s.to.bytes(1 + s.to.below(8)); s.Send(data, len(s.sent)+1, false, tick) == api.OK {
		s.sent = append(s.sent, data)
	}
}

// ends tells whether it has come to an end.
func (s *side) ends() bool { return s.State() == api.FDone || s.State() == api.FDead }

// run lets two flows carry that many pieces each way over such wires.
func run(t *testing.T, seed int, w wire, many int) (*side, *side) {
	d := dice(seed)
	w.dice = &d
	v := w
	x, y := seqs[seed%len(seqs)], seqs[(seed*7+2)%len(seqs)]
	a := &side{Flow: flow.Dial(x, 0), to: &w}
	b := &side{to: &v}
	for tick := 0; tick < 4000 && !(a.ends() && (b.Flow == nil || b.ends())); tick++ {
		for _, s := range []*side{a, b} {
			if s.Flow == nil {
				continue
			}
			s.act(many, tick)
			s.Expire(tick)
			s.to.put(s.Out())
		}
		for _, s := range w.some() {
			switch {
			case b.Flow != nil:
				b.hear(s, tick)
			case s.Syn && !s.Acks:
				b.Flow = flow.Answer(y, s, tick)
			}
		}
		for _, s := range v.some() {
			a.hear(s, tick)
		}
	}
	for _, s := range []*side{a, b} {
		if len(s.bad) > 0 {
			t.Errorf("%d: %s", seed, strings.Join(s.bad, ", "))
		}
	}
	return a, b
}

// begins holds what came to one side against what the other one sent: each piece once, in order, and what was acknowledged among it.
func begins(t *testing.T, seed int, came, sent *side) {
	t.Helper()
	if len(came.came) > len(sent.sent) {
		t.Fatalf("%d: %d came of %d", seed, len(came.came), len(sent.sent))
	}
	for i, data := range came.came {
		if !bytes.Equal(data, sent.sent[i]) {
			t.Errorf("%d: %q came, not %q", seed, data, sent.sent[i])
		}
	}
	if sent.acked > len(came.came) {
		t.Errorf("%d: %d are acknowledged, %d came", seed, sent.acked, len(came.came))
	}
}

// What comes fresh is a beginning of what was sent, whatever is lost, doubled and turned about.
func TestWhatComesIsInOrder(t *testing.T) {
	for seed := range 1500 {
		w := wire{lose: []int{0, 5, 20, 40, 70}[seed%5], double: []int{0, 20, 60}[seed%3], turn: []int{0, 30, 80, 100}[seed%4]}
		a, b := run(t, seed, w, seed%23)
		begins(t, seed, b, a)
		begins(t, seed, a, b)
		// With nothing left a flow may wait for a Fin that never comes.
		if !a.ends() && a.State() != api.FFin2 {
			t.Errorf("%d: it is in %d still", seed, a.State())
		}
	}
}

// All comes, and both are done, if little is lost: but now and then the last Fin finds that the other side is done already.
func TestAllComes(t *testing.T) {
	through := 0
	for seed := range 600 {
		a, b := run(t, seed, wire{lose: seed % 2 * 4, double: 30, turn: 50}, 5+seed%30)
		begins(t, seed, b, a)
		begins(t, seed, a, b)
		if a.State() == api.FDead || b.State() == api.FDead {
			continue
		}
		through++
		if len(b.came) != len(a.sent) || len(a.came) != len(b.sent) || !a.fin || !b.fin || a.State() != api.FDone || b.State() != api.FDone {
			t.Errorf("%d: %d of %d, %d of %d, in %d and %d", seed, len(b.came), len(a.sent), len(a.came), len(b.sent), a.State(), b.State())
		}
	}
	if through < 500 {
		t.Errorf("%d of 600 alone came through", through)
	}
}

// Nothing is lost, and nothing turned about: none may be dead.
func TestNothingIsLost(t *testing.T) {
	for seed := range 300 {
		a, b := run(t, seed, wire{}, 1+seed%40)
		if a.State() != api.FDone || b.State() != api.FDone || len(a.came) != 1+seed%40 || len(b.came) != 1+seed%40 {
			t.Errorf("%d: in %d and %d, %d and %d came", seed, a.State(), b.State(), len(a.came), len(b.came))
		}
	}
}

// Without anything heard a flow that has pieces is dead by and by, wherever it was left alone: its waits come to 80 ticks at most.
func TestLeftAloneItIsDead(t *testing.T) {
	for seed := range 800 {
		d := dice(seed)
		b := starts(t, seqs[seed%len(seqs)])[seed%3]
		for range d.below(60) {
			b.something(&d)
		}
		many := len(b.f.Left())
		if many == 0 || b.f.State() == api.FDead {
			continue
		}
		end := b.tick + 80
		for b.f.State() != api.FDead && b.tick < end {
			b.tick++
			b.expire()
		}
		if b.f.State() != api.FDead || len(b.f.Left()) != many {
			t.Errorf("%d: in %d, %d left of %d", seed, b.f.State(), len(b.f.Left()), many)
		}
	}
}
