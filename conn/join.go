package conn

import (
	"slices"

	"ferrybridge/api"
	"ferrybridge/flow"
	"ferrybridge/key"
	"ferrybridge/option"
	"ferrybridge/segment"
)

// Joined hears a Syn with Join, by which the other side dials one more leg.
func (c *Conn) Joined(s api.Segment, tick int) api.Errno {
	if c == nil {
		return api.ErrNil
	}
	join, is := option.Find(s.Opts, api.Join)
	if !is || !c.joins(s) || join.Token != c.Token() {
		return api.ErrArg
	}
	if !c.mayJoin() {
		return api.ErrState
	}
	if e := c.pairUp(s.Dst, s.Src); e != api.OK {
		return e
	}
	l := c.newLeg(s.Dst, s.Src)
	l.Flow, l.awaits = flow.Answer(c.drawn(l, forSeq), s, tick), api.JoinEnd
	l.backup, l.nonce, l.back = join.Backup, c.drawn(l, forNonce), join.Nonce
	c.start(l, api.Option{Kind: api.JoinBack, Mac: c.proves(l), Nonce: l.nonce}, tick)
	return api.OK
}

// Join dials one more leg.
func (c *Conn) Join(own, other int, backup bool, tick int) api.Errno {
	switch {
	case c == nil:
		return api.ErrNil
	case !c.mayJoin():
		return api.ErrState
	}
	if e := c.paths.Join(own, other); e != api.OK {
		return e
	}
	l := c.newLeg(own, other)
	l.Flow, l.awaits = flow.Dial(c.drawn(l, forSeq), tick), api.JoinBack
	l.backup, l.nonce = backup, c.drawn(l, forNonce)
	c.start(l, api.Option{Kind: api.Join, Token: key.Token(c.other), Nonce: l.nonce, Addr: own, Backup: backup}, tick)
	return api.OK
}

// Tell tells the other side one more address of its own.
func (c *Conn) Tell(own, tick int) api.Errno {
	if c == nil {
		return api.ErrNil
	}
	if e := c.paths.Tell(own); e != api.OK {
		return e
	}
	if open := c.open(); len(open) > 0 {
		open[0].Tell()
		c.emit(open[0], api.Option{Kind: api.Add, Addr: own})
	}
	return api.OK
}

// joins tells whether s asks for a leg that the connection may have.
func (c *Conn) joins(s api.Segment) bool {
	return segment.Right(s) && asks(s) && s.SPort == c.otherPort && s.DPort == c.ownPort
}

// mayJoin tells whether the state lets legs be joined; the other one's key is known in all of these.
func (c *Conn) mayJoin() bool {
	return api.COpen <= c.state && c.state <= api.CLastAck
}

// pairUp gives a pair of addresses a flow, of which the other one is told by that.
func (c *Conn) pairUp(own, other int) api.Errno {
	if slices.Contains(c.paths.Other(), other) {
		return c.paths.Join(own, other)
	}
	// Where it is refused, the other address wasn't told.
	switch {
	case !slices.Contains(c.paths.Own(), own):
		return api.ErrNone
	case len(c.paths.Pairs()) >= api.MaxFlows:
		return api.ErrFull
	}
	c.paths.Told(other)
	return c.paths.Join(own, other)
}
