package flow_test

import (
	"fmt"
	"strconv"
	"strings"
	"testing"

	"ferrybridge/api"
	"ferrybridge/flow"
)

// What flows answer is told by words, with numbers counted from where both streams begin, so that what is written is the same wherever that is.

// states are the states' words, by their numbers.
var states = [...]string{"", "synsent", "synrcvd", "open", "fin1", "fin2", "closewait", "closing", "lastack", "timewait", "done", "dead"}

// a place is a flow, and where its stream and the other one begin.
type place struct {
	*flow.Flow
	x, y uint32
}

// piece is S for Syn, F for Fin, the data, #Dsn, ! for Last, @Seq.
func (f place) piece(p api.Piece) string {
	s := string(p.Data)
	if p.Syn {
		s += "S"
	}
	if p.Fin {
		s += "F"
	}
	if p.Dsn != 0 {
		s += "#" + strconv.Itoa(p.Dsn)
	}
	if p.Last {
		s += "!"
	}
	return s + "@" + strconv.Itoa(int(int32(p.Seq-f.x)))
}

// outs are the pieces, with aAck behind those that tell what came, and R ahead of those that reset.
func (f place) outs() string {
	var l []string
	for _, o := range f.Out() {
		s := f.piece(o.Piece)
		if o.Rst {
			s = "R" + s
		}
		switch {
		case o.Acks:
			s += " a" + strconv.Itoa(int(int32(o.Ack-f.y)))
		case o.Ack != 0:
			s += " no Acks, but " + strconv.Itoa(int(o.Ack))
		}
		l = append(l, s)
	}
	return strings.Join(l, ", ")
}

// pieces are those, with blanks between, or none.
func (f place) pieces(l []api.Piece) string {
	if len(l) == 0 {
		return "none"
	}
	var words []string
	for _, p := range l {
		words = append(words, f.piece(p))
	}
	return strings.Join(words, " ")
}

// heard are words for what is true, and -piece for what is acknowledged.
func (f place) heard(h api.Heard) string {
	var l []string
	for _, w := range []struct {
		is   bool
		word string
	}{{h.Opened, "opened"}, {h.Fresh, "fresh"}, {h.Fin, "fin"}, {h.Reset, "reset"}, {h.Dead, "dead"}} {
		if w.is {
			l = append(l, w.word)
		}
	}
	for _, p := range h.Acked {
		l = append(l, "-"+f.piece(p))
	}
	return strings.Join(l, " ")
}

// stands is the state, with the deadline, or a - for none.
func (f place) stands() string {
	at, has := f.At()
	if !has && at == 0 {
		return states[f.State()] + " -"
	}
	return states[f.State()] + " " + strconv.Itoa(at)
}

// is holds what a call brought, what is to be sent, where the flow stands, and what is left, against what is written.
func (f place) is(t *testing.T, what string, h api.Heard, want string) {
	t.Helper()
	if got := fmt.Sprintf("%s; %s; %s; %s", f.heard(h), f.outs(), f.stands(), f.pieces(f.Left())); got != want {
		t.Errorf("from %d: %s: %q, not %q", f.x, what, got, want)
	}
}

// seg is a segment by words: S, F, R, the data in small letters, @Seq, aAck; numbers are counted from where both streams begin, those of the other side's being Seq.
func (f place) seg(words string) api.Segment {
	var s api.Segment
	for _, w := range strings.Fields(words) {
		n, _ := strconv.Atoi(w[1:])
		switch w[0] {
		case 'S':
			s.Syn = true
		case 'F':
			s.Fin = true
		case 'R':
			s.Rst = true
		case '@':
			s.Seq = f.y + uint32(n)
		case 'A':
			s.Ack, s.Acks = f.x+uint32(n), true
		default:
			s.Data = []byte(w)
		}
	}
	return s
}

// hears lets a segment be heard, by words.
func (f place) hears(words string, tick int) api.Heard {
	return f.Hear(f.seg(words), tick)
}

// open is a flow that was dialed in tick 9, and is open in tick 10: its wait is 3.
func open(x, y uint32) place {
	f := place{flow.Dial(x, 9), x, y}
	f.hears("S @0 A1", 10)
	return f
}

// bring is a flow in that state, nothing to be sent, in tick 11.
func bring(state int, x, y uint32) place {
	f := open(x, y)
	switch state {
	case api.FSynSent:
		f = place{flow.Dial(x, 10), x, y}
	case api.FSynRcvd:
		f = place{flow.Answer(x, f.seg("S @0"), 10), x, y}
	case api.FFin1, api.FFin2, api.FClosing, api.FTimeWait:
		f.Close(10)
	case api.FCloseWait, api.FLastAck, api.FDone:
		f.hears("F @1", 10)
	case api.FDead:
		f.Kill()
	}
	switch state {
	case api.FFin2, api.FTimeWait:
		f.hears("@1 A2", 11)
	case api.FLastAck, api.FDone:
		f.Close(10)
	}
	switch state {
	case api.FClosing, api.FTimeWait:
		f.hears("F @1", 11)
	case api.FDone:
		f.hears("@2 A2", 11)
	}
	f.Out()
	return f
}

// anywhere calls do with places in all of which both streams may begin.
func anywhere(do func(x, y uint32)) {
	for i, x := range seqs {
		do(x, seqs[(i*5+3)%len(seqs)])
	}
}

// The ways to states lead there.
func TestBring(t *testing.T) {
	want := [...]string{
		"", "synsent 14; S@0", "synrcvd 14; S@0", "open -; none", "fin1 13; F@1", "fin2 -; none", "closewait -; none",
		"closing 13; F@1", "lastack 13; F@1", "timewait 19; none", "done -; none", "dead -; none",
	}
	anywhere(func(x, y uint32) {
		for state := api.FSynSent; state <= api.FDead; state++ {
			f := bring(state, x, y)
			f.is(t, "bring "+states[state], api.Heard{}, "; ; "+want[state])
		}
	})
}
