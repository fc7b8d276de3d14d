package conn

import (
	"slices"

	"ferrybridge/api"
	"ferrybridge/sched"
)

// sendData takes data, and sends them on the legs that are picked, as long as there are both.
func (c *Conn) sendData(tick int) {
	for {
		picked := sched.Pick(c.how, c.last, c.ways()...)
		if len(picked) == 0 {
			return
		}
		dsn, data := c.sender.Take(api.MaxData)
		if len(data) == 0 {
			return
		}
		for _, place := range picked {
			l := c.legs[place]
			l.Send(data, dsn, false, tick)
			c.emit(l)
			c.last = place
		}
	}
}

// ways is what the scheduler knows of all legs.
func (c *Conn) ways() []api.Path {
	var ways []api.Path
	for _, l := range c.legs {
		ways = append(ways, l.path())
	}
	return ways
}

// sendEnd tells the end, if that is due, and wasn't told just now.
func (c *Conn) sendEnd(tick int) {
	end, due := c.sender.Due()
	if !due {
		c.unset(timeEnd)
		return
	}
	open := c.open()
	if c.is(timeEnd) || len(open) == 0 {
		return
	}
	for _, l := range open {
		l.Tell()
		for _, o := range l.Out() {
			c.put(l, o, c.dss(end, 0, true))
		}
	}
	c.told++
	c.set(timeEnd, tick, api.Between)
}

// giveUpEnd ends the connection, if the end was told often enough.
func (c *Conn) giveUpEnd() {
	// As long as data aren't acknowledged, their leg tells whether anybody is there.
	if end, due := c.sender.Due(); due && c.sender.Una() == end && c.told > api.MaxTries {
		c.end(api.ErrTimeout)
	}
}

// watchWindow lets the other side be asked, as long as nothing else tells that the window is open again.
func (c *Conn) watchWindow(tick int) {
	switch stuck := c.stuck(); {
	case !stuck:
		c.unset(timeWindow)
	case !c.is(timeWindow):
		c.set(timeWindow, tick, api.Between)
	}
}

// stuck tells whether data wait, and the window is used up, and none are on their way.
func (c *Conn) stuck() bool {
	next := c.sender.Next()
	wait := next < c.sender.Una()+c.sender.Held()
	return wait && next >= c.sender.Edge() && !slices.ContainsFunc(c.legs, (*leg).sending)
}

// ask asks the other side, on each leg that is open, what came.
func (c *Conn) ask() {
	for _, l := range c.open() {
		l.Probe()
		c.emit(l)
	}
}

// tell tells the other side, on each leg that is open, what came.
func (c *Conn) tell() {
	for _, l := range c.open() {
		l.Tell()
		c.emit(l)
	}
}

// open is the legs that are.
func (c *Conn) open() []*leg {
	var open []*leg
	for _, l := range c.legs {
		if l.open() {
			open = append(open, l)
		}
	}
	return open
}

// emit lets what the leg's flow has to be sent go; all but Syns with these options, too.
func (c *Conn) emit(l *leg, with ...api.Option) {
	for _, o := range l.Out() {
		if p := o.Piece; !p.Syn && !o.Rst {
			c.put(l, o, append([]api.Option{c.dss(p.Dsn, len(p.Data), false)}, with...)...)
		} else {
			c.put(l, o, with...)
		}
	}
}

// put lets a segment go, with these options.
func (c *Conn) put(l *leg, o api.Out, with ...api.Option) {
	p := o.Piece
	s := api.Segment{
		Src: l.own, Dst: l.other, SPort: c.ownPort, DPort: c.otherPort,
		Seq: p.Seq, Ack: o.Ack, Syn: p.Syn, Acks: o.Acks, Fin: p.Fin, Rst: o.Rst,
		Data: slices.Clone(p.Data),
	}
	if p.Syn {
		s.Opts = []api.Option{l.hello}
	} else {
		s.Opts = slices.Concat(with, l.proof)
	}
	if !p.Syn && !o.Rst {
		s.Win = c.receiver.Win()
	}
	c.segments = append(c.segments, s)
}

// dss tells what came, and which data go with it: their first number, how many, whether they end behind these.
func (c *Conn) dss(dsn, long int, fin bool) api.Option {
	o := api.Option{Kind: api.Dss, HasAck: true, Ack: c.receiver.Ack()}
	if long > 0 || fin {
		o.HasMap, o.Dsn, o.Len, o.Fin = true, dsn, long, fin
	}
	return o
}
