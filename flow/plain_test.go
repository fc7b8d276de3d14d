package flow_test

import (
	"bytes"
	"reflect"
	"slices"
	"testing"

	"ferrybridge/api"
	"ferrybridge/flow"
	"ferrybridge/rtt"
)

const (
	round    = 1 << 32
	greatest = round - 1
)

// seqs are where streams begin: the edges, those about half of all numbers, and some of all sorts.
var seqs = []uint32{0, 1, 5, 1<<31 - 3, 1<<31 - 1, 1 << 31, 1<<31 + 1, 0xdeadbeef, greatest - 9, greatest - 3, greatest - 1, greatest}

// dice are numbers of all sorts, always the same.
type dice uint64

func (d *dice) below(n int) int {
	*d = *d*6364136223846793005 + 1442695040888963407
	return int(uint64(*d)>>33) % n
}

func (d *dice) one(of int) bool { return d.below(of) == 0 }

func (d *dice) bytes(n int) []byte {
	var b []byte
	for range n {
		b = append(b, byte(d.below(256)))
	}
	return b
}

// plain is a flow whose numbers don't go round, and that keeps all it ever sent: what it is told of is reckoned out of that.
type plain struct {
	state int
	end   int
	rcv   int
	ever  []sent
	gone  int
	est   rtt.Rtt
	tries int
	at    int
	has   bool
	outs  []api.Out
}

// sent is a piece, from which number to which, in which tick, how often, and the first one of those that were sent behind an empty queue.
type sent struct {
	from, to, tick, times, lap int
	p                          api.Piece
}

func plainDial(iss uint32, tick int) *plain {
	p := &plain{state: api.FSynSent, end: int(iss)}
	p.push(api.Piece{Syn: true}, tick)
	return p
}

func plainAnswer(iss uint32, s api.Segment, tick int) *plain {
	p := &plain{state: api.FSynRcvd, end: int(iss), rcv: int(s.Seq) + 1}
	p.push(api.Piece{Syn: true}, tick)
	return p
}

func (p *plain) push(x api.Piece, tick int) {
	s := sent{from: p.end, to: p.end + len(x.Data), tick: tick, times: 1, lap: len(p.ever), p: x}
	if x.Syn || x.Fin {
		s.to++
	}
	if p.gone < len(p.ever) {
		s.lap = p.ever[p.gone].lap
	}
	s.p.Seq = uint32(p.end % round)
	s.p.Data = bytes.Clone(x.Data)
	p.ever, p.end = append(p.ever, s), s.to
	p.out(s.p, false)
	if !p.has {
		p.due(tick, p.est.Wait())
	}
}

func (p *plain) due(tick, wait int) { p.at, p.has = tick+wait, true }

func (p *plain) out(x api.Piece, rst bool) {
	o := api.Out{Piece: x, Rst: rst}
	if p.state != api.FSynSent {
		o.Ack, o.Acks = uint32(p.rcv%round), true
	}
	p.outs = append(p.outs, o)
}

func (p *plain) tell() { p.out(api.Piece{Seq: uint32(p.end % round)}, false) }

func (p *plain) again(tick int) {
	for i := p.gone; i < len(p.ever); i++ {
		p.ever[i].times++
		p.out(p.ever[i].p, false)
	}
	p.due(tick, p.est.Wait())
}

func (p *plain) stop(state int) { p.state, p.at, p.has = state, 0, false }

func (p *plain) begin() int {
	if p.gone < len(p.ever) {
		return p.ever[p.gone].from
	}
	return p.end
}

func (p *plain) left() []api.Piece {
	var l []api.Piece
	for _, s := range p.ever[p.gone:] {
		l = append(l, s.p)
	}
	return l
}

// ack is what steps 2 and 4 say of pieces that went.
func (p *plain) ack(ack uint32, tick int) []api.Piece {
	at := p.begin()
	for ; at%round != int(ack); at++ {
		if at == p.end {
			return nil
		}
	}
	was, l := p.gone, p.left()
	for p.gone < len(p.ever) && p.ever[p.gone].to <= at {
		p.gone++
	}
	if p.gone == was {
		return nil
	}
	lap, twice := p.ever[was].lap, false
	for _, s := range p.ever[lap:] {
		twice = twice || s.times > 1
	}
	if lap == was && !twice {
		p.est.Sample(tick - p.ever[lap].tick)
	}
	p.tries = 0
	p.est.Fresh()
	p.at, p.has = 0, false
	if p.gone < len(p.ever) {
		p.due(tick, p.est.Wait())
	}
	return l[:p.gone-was]
}

// hear goes by the chapter's steps, one behind the other.
func (p *plain) hear(s api.Segment, tick int) (h api.Heard) {
	isEnd, isRcv := int(s.Ack) == p.end%round, int(s.Seq) == p.rcv%round
	if p.state == api.FDone || p.state == api.FDead {
		return
	}
	if s.Rst { // 1
		if p.state == api.FSynSent && s.Acks && isEnd || p.state != api.FSynSent && isRcv {
			p.stop(api.FDead)
			h.Reset = true
		}
		return
	}
	if p.state == api.FSynSent { // 2
		if s.Syn && s.Acks && isEnd {
			p.rcv = int(s.Seq) + 1
			h.Acked = p.ack(s.Ack, tick)
			p.state, h.Opened = api.FOpen, true
			p.tell()
		}
		return
	}
	if s.Syn { // 3
		if p.state == api.FSynRcvd && !s.Acks && (int(s.Seq)+1)%round == p.rcv%round {
			p.again(tick)
		} else {
			p.tell()
		}
		return
	}
	if s.Acks { // 4
		h.Acked = p.ack(s.Ack, tick)
		for _, x := range h.Acked {
			switch {
			case x.Syn && p.state == api.FSynRcvd:
				p.state, h.Opened = api.FOpen, true
			case x.Fin && p.state == api.FFin1:
				p.state = api.FFin2
			case x.Fin && p.state == api.FClosing:
				p.state = api.FTimeWait
				p.due(tick, 8)
			case x.Fin && p.state == api.FLastAck:
				p.stop(api.FDone)
			}
		}
	}
	if p.state == api.FSynRcvd || p.state == api.FDone { // 5
		return
	}
	back := (p.rcv - int(s.Seq) + 2*round) % round
	if next, is := map[int]int{api.FOpen: api.FCloseWait, api.FFin1: api.FClosing, api.FFin2: api.FTimeWait}[p.state]; is && isRcv {
		h.Fresh, h.Fin = true, s.Fin
		p.rcv += len(s.Data)
		if s.Fin {
			p.rcv++
			p.state = next
			if next == api.FTimeWait {
				p.due(tick, 8)
			}
		}
		if len(s.Data) > 0 || s.Fin {
			p.tell()
		}
	} else if len(s.Data) > 0 || s.Fin || back >= 1 && back < round/2 {
		p.tell()
	}
	return
}

func (p *plain) send(data []byte, dsn int, last bool, tick int) api.Errno {
	if p.state != api.FOpen && p.state != api.FCloseWait {
		return api.ErrState
	}
	if len(data) < 1 || len(data) > 8 {
		return api.ErrArg
	}
	p.push(api.Piece{Data: data, Dsn: dsn, Last: last}, tick)
	return api.OK
}

func (p *plain) close(tick int) api.Errno {
	next, is := map[int]int{api.FOpen: api.FFin1, api.FCloseWait: api.FLastAck}[p.state]
	if !is {
		return api.ErrState
	}
	p.push(api.Piece{Fin: true}, tick)
	p.state = next
	return api.OK
}

func (p *plain) kill() {
	switch p.state {
	case api.FDone, api.FDead:
		return
	case api.FSynSent, api.FTimeWait:
	default:
		p.out(api.Piece{Seq: uint32(p.end % round)}, true)
	}
	p.stop(api.FDead)
}

func (p *plain) tellAt(seq int) api.Errno {
	switch p.state {
	case api.FSynSent, api.FSynRcvd, api.FDone, api.FDead:
		return api.ErrState
	}
	p.out(api.Piece{Seq: uint32((seq + round) % round)}, false)
	return api.OK
}

func (p *plain) expire(tick int) (h api.Heard) {
	switch {
	case !p.has || tick < p.at:
	case p.state == api.FTimeWait:
		p.stop(api.FDone)
	case p.tries == 4:
		p.stop(api.FDead)
		h.Dead = true
	default:
		p.tries++
		p.est.Back()
		p.again(tick)
	}
	return
}

// both is a flow, and the same in the plain way, at a tick: each call is told to both.
type both struct {
	t    *testing.T
	f    *flow.Flow
	p    *plain
	tick int
}

func newDial(t *testing.T, iss uint32, tick int) *both {
	t.Helper()
	b := &both{t, flow.Dial(iss, tick), plainDial(iss, tick), tick}
	b.look()
	return b
}

func newAnswer(t *testing.T, iss uint32, s api.Segment, tick int) *both {
	t.Helper()
	b := &both{t, flow.Answer(iss, s, tick), plainAnswer(iss, s, tick), tick}
	b.look()
	return b
}

func (b *both) end() uint32   { return uint32(b.p.end % round) }
func (b *both) begin() uint32 { return uint32(b.p.begin() % round) }
func (b *both) rcv() uint32   { return uint32(b.p.rcv % round) }

func (b *both) hear(s api.Segment) api.Heard {
	b.t.Helper()
	was := b.p.state
	got, want := b.f.Hear(s, b.tick), b.p.hear(s, b.tick)
	if !sameHeard(got, want) {
		b.t.Errorf("in %d: Hear(%+v): %+v, not %+v", was, s, got, want)
	}
	b.look()
	return got
}

func (b *both) expire() {
	b.t.Helper()
	if got, want := b.f.Expire(b.tick), b.p.expire(b.tick); !sameHeard(got, want) {
		b.t.Errorf("Expire(%d): %+v, not %+v", b.tick, got, want)
	}
	b.look()
}

func (b *both) send(data []byte, dsn int, last bool) {
	b.t.Helper()
	b.errs("Send", b.f.Send(data, dsn, last, b.tick), b.p.send(data, dsn, last, b.tick))
}

func (b *both) close() {
	b.t.Helper()
	b.errs("Close", b.f.Close(b.tick), b.p.close(b.tick))
}

func (b *both) kill() {
	b.t.Helper()
	b.f.Kill()
	b.p.kill()
	b.look()
}

func (b *both) tell() {
	b.t.Helper()
	b.errs("Tell", b.f.Tell(), b.p.tellAt(b.p.end))
}

func (b *both) probe() {
	b.t.Helper()
	b.errs("Probe", b.f.Probe(), b.p.tellAt(b.p.begin()-1))
}

func (b *both) errs(call string, got, want api.Errno) {
	b.t.Helper()
	if got != want {
		b.t.Errorf("in %d: %s: %d, not %d", b.p.state, call, got, want)
	}
	b.look()
}

// look asks all that tells, and changes nothing.
func (b *both) look() {
	b.t.Helper()
	if got := b.f.State(); got != b.p.state {
		b.t.Errorf("State: %d, not %d", got, b.p.state)
	}
	if got, has := b.f.At(); got != b.p.at || has != b.p.has {
		b.t.Errorf("in %d: At: %d, %v, not %d, %v", b.p.state, got, has, b.p.at, b.p.has)
	}
	if got, want := b.f.Left(), b.p.left(); !samePieces(got, want) {
		b.t.Errorf("in %d: Left: %+v, not %+v", b.p.state, got, want)
	}
	if got, want := b.f.Smooth(), b.p.est.Smooth(); got != want {
		b.t.Errorf("in %d: Smooth: %d, not %d", b.p.state, got, want)
	}
}

// out is what both want to be sent.
func (b *both) out() []api.Out {
	b.t.Helper()
	got, want := b.f.Out(), b.p.outs
	b.p.outs = nil
	if !sameOuts(got, want) {
		b.t.Errorf("in %d: Out: %+v, not %+v", b.p.state, got, want)
	}
	if l := b.f.Out(); len(l) != 0 {
		b.t.Errorf("in %d: Out once more: %+v", b.p.state, l)
	}
	b.look()
	return got
}

// same holds pieces against each other, and those lists and answers that have some: nil and empty are one.
func same(a, b api.Piece) bool {
	data := bytes.Equal(a.Data, b.Data)
	a.Data, b.Data = nil, nil
	return data && reflect.DeepEqual(a, b)
}

func samePieces(a, b []api.Piece) bool { return slices.EqualFunc(a, b, same) }

func sameOuts(a, b []api.Out) bool {
	return slices.EqualFunc(a, b, func(a, b api.Out) bool {
		pieces := same(a.Piece, b.Piece)
		a.Piece, b.Piece = api.Piece{}, api.Piece{}
		return pieces && reflect.DeepEqual(a, b)
	})
}

func sameHeard(a, b api.Heard) bool {
	acked := samePieces(a.Acked, b.Acked)
	a.Acked, b.Acked = nil, nil
	return acked && reflect.DeepEqual(a, b)
}
