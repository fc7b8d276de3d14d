package flow_test

import (
	"testing"

	"ferrybridge/api"
)

// The flow held against the plain one: all short ways, and long ones of all sorts.

// steps are what the other side, time and this side do where a flow is.
var steps = []func(*both){
	func(b *both) { b.send([]byte("abc"), 7, false) },
	func(b *both) { b.close() },
	func(b *both) { b.tick += 2 },
	func(b *both) { b.tick = max(b.tick, b.p.at); b.expire() },
	func(b *both) { b.hear(api.Segment{Seq: b.rcv(), Ack: b.end(), Acks: true}) },
	func(b *both) { b.hear(api.Segment{Seq: b.rcv(), Ack: b.begin() + 3, Acks: true, Data: []byte("xy")}) },
	func(b *both) { b.hear(api.Segment{Seq: b.rcv(), Ack: b.end() + 1, Acks: true, Fin: true}) },
	func(b *both) { b.hear(api.Segment{Seq: b.rcv() - 1, Ack: b.begin() + 1, Acks: true}) },
	func(b *both) { b.hear(api.Segment{Seq: b.rcv() - 1, Syn: true}) },
	func(b *both) { b.hear(api.Segment{Seq: b.rcv() - 1, Syn: true, Acks: true, Ack: b.end()}) },
}

// starts are two flows that begin, and one that is open.
func starts(t *testing.T, seq uint32) []*both {
	open := newDial(t, seq, 4)
	open.tick++
	open.hear(api.Segment{Seq: seq, Ack: seq + 1, Syn: true, Acks: true})
	return []*both{open, newDial(t, seq, 0), newAnswer(t, seq, api.Segment{Seq: seq - 3, Syn: true}, 0)}
}

// All steps one behind the other, five of ten.
func TestAllShortWays(t *testing.T) {
	many := 1
	for range 5 {
		many *= len(steps)
	}
	for way := range many {
		for _, b := range starts(t, seqs[way%len(seqs)]) {
			for n := way; n > 0; n /= len(steps) {
				steps[n%len(steps)](b)
			}
			b.out()
		}
		if t.Failed() {
			t.Fatalf("in the way %d", way)
		}
	}
}

// segment is one of any sort, most of them about where the flow is.
func (b *both) segment(d *dice) api.Segment {
	s := api.Segment{Seq: b.rcv(), Ack: b.end(), Acks: !d.one(6), Syn: d.one(15), Fin: d.one(12), Rst: d.one(60)}
	if d.one(2) {
		s.Seq += uint32(d.below(7)) - 3
	}
	if d.one(2) {
		s.Ack = b.begin() + uint32(d.below(b.p.end-b.p.begin()+5)) - 2
	}
	if d.one(30) {
		s.Seq += 1<<31 - 1 + uint32(d.below(3))
	}
	if d.one(30) {
		s.Ack = uint32(d.below(1<<31)) << 1
	}
	if d.one(3) {
		s.Data = d.bytes(d.below(10))
	}
	if b.p.state == api.FSynSent {
		s.Seq = uint32(d.below(1<<31)) << 1
		s.Syn = !d.one(3)
	}
	return s
}

// something is a call, whichever the dice tell.
func (b *both) something(d *dice) {
	b.t.Helper()
	switch d.below(20) {
	case 0, 1, 2, 3:
		b.send(d.bytes(d.below(10)), d.below(9)-1, d.one(4))
	case 4:
		if d.one(3) {
			b.close()
		}
	case 5:
		if d.one(30) {
			b.kill()
		}
	case 6:
		b.tell()
	case 7:
		b.probe()
	case 8, 9:
		b.expire()
	case 10, 11:
		b.tick += d.below(4)
	case 12:
		if at, has := b.f.At(); has && d.one(2) {
			b.tick = max(b.tick, at-1+d.below(3))
		}
	case 13:
		b.out()
	default:
		b.hear(b.segment(d))
	}
}

func TestLongWays(t *testing.T) {
	for seed := range 3000 {
		d := dice(seed)
		for _, b := range starts(t, seqs[seed%len(seqs)]) {
			for range 80 {
				b.something(&d)
			}
			b.out()
		}
		if t.Failed() {
			t.Fatalf("in the way %d", seed)
		}
	}
}

// Each state is come to on these ways, so that what they hold is held of all.
func TestWaysComeToAllStates(t *testing.T) {
	come := map[int]int{}
	for seed := range 600 {
		d := dice(seed)
		for _, b := range starts(t, seqs[seed%len(seqs)]) {
			for range 80 {
				b.something(&d)
				come[b.f.State()]++
			}
		}
	}
	for state := api.FSynSent; state <= api.FDead; state++ {
		if come[state] < 100 {
			t.Errorf("%d: %d times", state, come[state])
		}
	}
}
