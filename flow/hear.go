package flow

import (
	"ferrybridge/api"
	"ferrybridge/segment"
	"ferrybridge/serial"
)

// Hear hears a segment, and answers what it brought.
func (f *Flow) Hear(s api.Segment, tick int) api.Heard {
	switch {
	case f == nil || f.ended():
		return api.Heard{}
	case s.Rst:
		return f.hearRst(s)
	case f.state == api.FSynSent:
		return f.hearAnswer(s, tick)
	case s.Syn:
		f.hearSyn(s, tick)
		return api.Heard{}
	}
	var h api.Heard
	if s.Acks {
		f.hearAck(s.Ack, tick, &h)
	}
	if f.within(api.FOpen, api.FTimeWait) {
		f.hearData(s, tick, &h)
	}
	return h
}

// hearRst hears a segment that resets, which must tell a number that a stranger doesn't know.
func (f *Flow) hearRst(s api.Segment) api.Heard {
	right := s.Seq == f.rcv
	if f.state == api.FSynSent {
		right = s.Acks && s.Ack == f.End()
	}
	if right {
		f.end(api.FDead)
	}
	return api.Heard{Reset: right}
}

// hearAnswer hears what may answer the Syn of who dialed.
func (f *Flow) hearAnswer(s api.Segment, tick int) api.Heard {
	if !s.Syn || !s.Acks || s.Ack != f.End() {
		return api.Heard{}
	}
	f.rcv = serial.On(s.Seq, 1)
	acked := f.acknowledge(s.Ack, tick)
	f.state = api.FOpen
	f.tellAt(f.End())
	return api.Heard{Opened: true, Acked: acked}
}

// hearSyn hears a Syn where one came already.
func (f *Flow) hearSyn(s api.Segment, tick int) {
	if f.state == api.FSynRcvd && !s.Acks && s.Seq == serial.On(f.rcv, -1) {
		f.sendAgain(tick)
		return
	}
	f.tellAt(f.End())
}

// hearAck hears what the other side acknowledges, and does what the pieces that went lead to.
func (f *Flow) hearAck(ack uint32, tick int, h *api.Heard) {
	h.Acked = f.acknowledge(ack, tick)
	for _, p := range h.Acked {
		switch {
		case p.Syn && f.state == api.FSynRcvd:
			f.state, h.Opened = api.FOpen, true
		case p.Fin:
			f.finAcked(tick)
		}
	}
}

// acknowledge lets the pieces up to ack go, if that may be, and answers them.
func (f *Flow) acknowledge(ack uint32, tick int) []api.Piece {
	gone, _ := f.Ack(ack)
	if len(gone) == 0 {
		return nil
	}
	if f.timed {
		f.Sample(ticks(f.began, tick))
	}
	f.timed, f.tries = false, 0
	f.Fresh()
	f.due = deadline{}
	if f.Len() > 0 {
		f.due = deadline{tick, f.Wait()}
	}
	return gone
}

// hearData hears a segment's data, and its Fin.
func (f *Flow) hearData(s api.Segment, tick int, h *api.Heard) {
	tells := segment.Long(s) > 0 || serial.Before(s.Seq, f.rcv)
	if s.Seq == f.rcv && f.takes() {
		h.Fresh, h.Fin = true, s.Fin
		f.rcv = serial.On(f.rcv, segment.Long(s))
		if s.Fin {
			f.finCame(tick)
		}
	}
	if tells {
		f.tellAt(f.End())
	}
}

// takes tells whether the other side's data may come.
func (f *Flow) takes() bool {
	return f.state == api.FOpen || f.state == api.FFin1 || f.state == api.FFin2
}

// finAcked is what it leads to that this side's Fin is acknowledged.
func (f *Flow) finAcked(tick int) {
	switch f.state {
	case api.FFin1:
		f.state = api.FFin2
	case api.FClosing:
		f.linger(tick)
	case api.FLastAck:
		f.end(api.FDone)
	}
}

// finCame is what it leads to that the other side's Fin came.
func (f *Flow) finCame(tick int) {
	switch f.state {
	case api.FOpen:
		f.state = api.FCloseWait
	case api.FFin1:
		f.state = api.FClosing
	case api.FFin2:
		f.linger(tick)
	}
}

// linger makes FTimeWait the state, for a while.
func (f *Flow) linger(tick int) {
	f.state, f.due = api.FTimeWait, deadline{tick, api.Msl2}
}
