package conn

import (
	"slices"

	"ferrybridge/api"
	"ferrybridge/option"
)

// Mine tells whether s is of a leg that isn't dead or done.
func (c *Conn) Mine(s api.Segment) bool {
	return c.legOf(s) != nil
}

// Hear hears s, and tells whether it is the connection's.
func (c *Conn) Hear(s api.Segment, tick int) bool {
	l := c.legOf(s)
	// In CClosed there are no legs.
	if l == nil {
		return false
	}
	if fast, is := option.Find(s.Opts, api.Fast); is && s.Rst {
		if fast.Key == c.key {
			c.hush(api.ErrReset)
		}
		return true
	}
	c.hearLeg(l, s, tick)
	c.settle(tick)
	return true
}

// hearLeg hears s on its leg.
func (c *Conn) hearLeg(l *leg, s api.Segment, tick int) {
	why := api.ErrReset
	switch h := l.Hear(s, tick); {
	case h.Reset && c.state == api.CInit:
		why = api.ErrRefused
	case h.Opened && !c.admits(l, s):
		l.refuse()
	case l.opened() && !s.Rst:
		c.step(api.EOpen)
		c.heard(tick)
		c.heed(l, s, h.Fresh)
	}
	c.emit(l)
	c.leave(l, why)
}

// heed hears what s, on an open leg, tells of the connection; fresh: its data are next on that leg.
func (c *Conn) heed(l *leg, s api.Segment, fresh bool) {
	if s.Syn {
		return
	}
	if add, is := option.Find(s.Opts, api.Add); is {
		c.paths.Told(add.Addr)
	}
	dss, _ := option.Find(s.Opts, api.Dss)
	if dss.HasAck {
		c.sender.Ack(dss.Ack, s.Win)
	}
	if fresh && len(s.Data) > 0 && !c.hearData(l, dss, s.Data) {
		return
	}
	if dss.HasMap && dss.Fin {
		c.receiver.End(dss.Dsn + dss.Len)
		c.answer(l)
	}
}

// hearData hears fresh data, and tells whether all is well behind that.
func (c *Conn) hearData(l *leg, dss api.Option, data []byte) bool {
	if !dss.HasMap || dss.Len != len(data) {
		l.refuse()
		return false
	}
	if c.receiver.Put(dss.Dsn, data) > 0 && c.closed {
		// Nobody will read them.
		c.abort(api.ErrReset)
		return false
	}
	return true
}

// answer tells what came, but where the flow tells it anyway.
func (c *Conn) answer(l *leg) {
	sent := len(c.segments)
	c.emit(l)
	if len(c.segments) == sent {
		l.Tell()
	}
}

// heard notes that the other side is there.
func (c *Conn) heard(tick int) {
	c.asked = 0
	c.set(timeIdle, tick, api.Idle)
}

// legOf is the leg whose s is; nil, if there is none.
func (c *Conn) legOf(s api.Segment) *leg {
	if c == nil || s.SPort != c.otherPort || s.DPort != c.ownPort {
		return nil
	}
	place := slices.IndexFunc(c.legs, func(l *leg) bool { return l.of(s) })
	if place < 0 {
		return nil
	}
	return c.legs[place]
}

// asks tells whether s asks for a flow to be opened.
func asks(s api.Segment) bool {
	return s.Syn && !s.Acks
}
