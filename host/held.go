package host

import (
	"slices"

	"ferrybridge/api"
	"ferrybridge/conn"
)

// Whose a handle is.
const (
	nobodys = iota // nobody's yet: it waits to be accepted
	had            // an application's
	left           // nobody's any more: it was closed, or aborted
)

// held is what a handle stands for: this host's end of a connection.
type held struct {
	*conn.Conn
	handle, whose int
	// port and came are where it waits to be accepted, and since when.
	port, came int
}

// add lets x be one of the host's, and answers its handle, which is the next one.
func (h *Host) add(x *held) int {
	h.made++
	x.handle = h.made
	h.held = append(h.held, x)
	h.settle(x)
	return x.handle
}

// full tells whether there are as many connections as may be.
func (h *Host) full() bool {
	return len(h.held) >= api.MaxConns
}

// waiting is the connections that wait at port, the one that waits longest first.
func (h *Host) waiting(port int) []*held {
	var l []*held
	for _, x := range h.held {
		if x.whose == nobodys && x.port == port {
			l = append(l, x)
		}
	}
	return l
}

// each does something with each connection, in the order of handles.
func (h *Host) each(do func(x *held)) {
	// A copy, as those that are gone behind it leave the list.
	for _, x := range slices.Clone(h.held) {
		do(x)
		h.settle(x)
	}
}

// settle takes over what x has to be sent; when x is over it frees the token, and lets x go, if no application has it.
func (h *Host) settle(x *held) {
	h.segments = append(h.segments, x.Out()...)
	if !x.Over() {
		return
	}
	// Behind its quarantine the token may be another one's.
	if owner, live := h.table.Find(x.Token()); live && owner == x.handle {
		h.table.Free(x.Token(), h.tick)
	}
	if x.whose != had {
		h.held = slices.DeleteFunc(h.held, func(y *held) bool { return y == x })
	}
}
