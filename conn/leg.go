package conn

import (
	"slices"

	"ferrybridge/api"
	"ferrybridge/flow"
	"ferrybridge/key"
	"ferrybridge/option"
)

// What numbers are drawn for.
const (
	forSeq = iota
	forNonce
)

// leg is a flow of a connection, from one address to another one.
type leg struct {
	*flow.Flow
	own, other int
	backup     bool
	number     int
	// awaits is the kind of option that must be in what opens it; 0: none.
	awaits int
	// nonce and back are its own nonce and the other one's, if it joins.
	nonce, back uint32
	// hello goes with its Syns, proof with all else.
	hello api.Option
	proof []api.Option
}

// newLeg is a leg without a flow yet.
func (c *Conn) newLeg(own, other int) *leg {
	l := &leg{own: own, other: other, number: c.made}
	c.made++
	return l
}

// start lets a leg be one of the connection's: its Syn goes, with hello.
func (c *Conn) start(l *leg, hello api.Option, tick int) {
	l.hello = hello
	c.legs = append(c.legs, l)
	c.emit(l)
	c.settle(tick)
}

// drawn is a number of the leg's that differs from those of all other ones, and that nobody guesses who doesn't know the key.
func (c *Conn) drawn(l *leg, what uint32) uint32 {
	return uint32(key.Proof(c.key, 0, uint32(l.number), what))
}

// of tells whether s is the leg's, if its ports are the connection's.
func (l *leg) of(s api.Segment) bool {
	return s.Src == l.other && s.Dst == l.own
}

// open tells whether data may be sent on it: also where the other side's Fin came, behind which it may still have to be told something.
func (l *leg) open() bool {
	return l.State() == api.FOpen || l.State() == api.FCloseWait
}

// over tells whether it is dead or done.
func (l *leg) over() bool {
	return l.State() == api.FDead || l.State() == api.FDone
}

// opened tells whether it was opened, by what it must be.
func (l *leg) opened() bool {
	return l.State() >= api.FOpen
}

// sending tells whether data are on their way on it.
func (l *leg) sending() bool {
	return slices.ContainsFunc(l.Left(), func(p api.Piece) bool { return len(p.Data) > 0 })
}

// path is what the scheduler knows of it.
func (l *leg) path() api.Path {
	return api.Path{Ready: l.open(), Backup: l.backup, Smooth: l.Smooth(), Left: len(l.Left())}
}

// admits tells whether s, which opened the leg, has what must be in it.
func (c *Conn) admits(l *leg, s api.Segment) bool {
	if l.awaits == 0 {
		return true
	}
	o, is := option.Find(s.Opts, l.awaits)
	if !is {
		return false
	}
	switch l.awaits {
	case api.Capable:
		c.other = o.Key
		return true
	case api.JoinBack:
		l.back = o.Nonce
	}
	if o.Mac != key.Proof(c.other, c.key, l.back, l.nonce) {
		return false
	}
	if l.awaits == api.JoinBack {
		l.proof = []api.Option{{Kind: api.JoinEnd, Mac: c.proves(l)}}
	}
	return true
}

// proves is what proves the keys of this side, on a leg that joins.
func (c *Conn) proves(l *leg) uint64 {
	return key.Proof(c.key, c.other, l.nonce, l.back)
}

// kill kills a leg; what resets it has these options, too.
func (c *Conn) kill(l *leg, with ...api.Option) {
	// What is told already goes without them.
	c.emit(l)
	l.Kill()
	c.emit(l, with...)
}

// refuse kills the leg for what came on it, which isn't answered otherwise.
func (l *leg) refuse() {
	l.Out()
	l.Kill()
}

// leave lets the leg go, if it is dead or done; why is what becomes of the connection, if it was the last one.
func (c *Conn) leave(l *leg, why api.Errno) {
	if l.over() {
		c.lastly = why
		c.drop(l)
	}
}

// drop lets a leg be none of the connection's any more, and what it didn't bring over be taken once more.
func (c *Conn) drop(l *leg) {
	place := slices.Index(c.legs, l)
	if place < 0 {
		return
	}
	c.legs = slices.Delete(c.legs, place, place+1)
	if place <= c.last {
		// The one behind it is still the next one.
		c.last--
	}
	c.paths.Gone(l.own, l.other)
	c.wheel.Cancel(timeLeg + l.number)
	for _, p := range l.Left() {
		c.sender.Lost(p.Dsn, len(p.Data))
	}
}
