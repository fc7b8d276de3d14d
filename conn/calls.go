package conn

import (
	"ferrybridge/api"
	"ferrybridge/close"
)

// Write lets as many of b's first bytes as there is room for be sent, and answers how many.
func (c *Conn) Write(b []byte, tick int) (int, api.Errno) {
	switch {
	case c == nil:
		return 0, api.ErrNil
	case c.err != api.OK:
		return 0, c.err
	case c.state == api.CInit:
		return 0, api.ErrWait
	case !close.Writes(c.state) || c.closed:
		return 0, api.ErrClosed
	}
	n, e := c.sender.Write(b)
	if e == api.OK {
		c.settle(tick)
	}
	return n, e
}

// Read answers the first data that weren't read, at most so many.
func (c *Conn) Read(most, tick int) ([]byte, api.Errno) {
	switch {
	case c == nil:
		return nil, api.ErrNil
	case c.err != api.OK:
		return nil, c.err
	case c.closed:
		return nil, api.ErrClosed
	case c.state == api.CInit:
		return nil, api.ErrWait
	}
	narrow := c.receiver.Win() < api.MaxData
	b, e := c.receiver.Read(most)
	if narrow && c.receiver.Win() >= api.MaxData {
		// The other side may wait for it.
		c.tell()
	}
	return b, e
}

// Shutdown ends what this side writes.
func (c *Conn) Shutdown(tick int) api.Errno {
	switch {
	case c == nil:
		return api.ErrNil
	case c.err != api.OK:
		return c.err
	case !close.Writes(c.state):
		return api.ErrState
	}
	c.shut()
	c.settle(tick)
	return api.OK
}

// Close ends both: nobody reads any more, and what was written is given a while.
func (c *Conn) Close(tick int) api.Errno {
	switch {
	case c == nil:
		return api.ErrNil
	case c.closed:
		return api.ErrTwice
	}
	c.closed = true
	switch {
	case c.state == api.CClosed:
	case c.state == api.CInit || c.receiver.Ready() > 0:
		c.abort(api.ErrAbort)
	default:
		c.shut()
		c.set(timeLinger, tick, api.Linger)
		c.settle(tick)
	}
	return api.OK
}

// Abort gives it up.
func (c *Conn) Abort(tick int) api.Errno {
	switch {
	case c == nil:
		return api.ErrNil
	case c.state == api.CClosed:
		return api.ErrTwice
	}
	c.abort(api.ErrAbort)
	return api.OK
}

// Set sets how legs are picked.
func (c *Conn) Set(how int) api.Errno {
	switch {
	case c == nil:
		return api.ErrNil
	case how < api.PickQuick || how > api.PickAll:
		return api.ErrArg
	}
	c.how = how
	return api.OK
}

// shut tells the sender's end; where it was told, nothing comes of it.
func (c *Conn) shut() {
	c.sender.End()
	c.step(api.EClose)
}
