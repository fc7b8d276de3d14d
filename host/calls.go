package host

import (
	"slices"

	"ferrybridge/api"
)

// Write lets as many of b's first bytes as there is room for be sent, and answers how many.
func (h *Host) Write(handle int, b []byte) (int, api.Errno) {
	n := 0
	e := h.call(handle, func(x *held, tick int) (e api.Errno) {
		n, e = x.Write(b, tick)
		return e
	})
	return n, e
}

// Read answers the first data that weren't read, at most so many.
func (h *Host) Read(handle, most int) ([]byte, api.Errno) {
	var b []byte
	e := h.call(handle, func(x *held, tick int) (e api.Errno) {
		b, e = x.Read(most, tick)
		return e
	})
	return b, e
}

// Shutdown ends what is written.
func (h *Host) Shutdown(handle int) api.Errno {
	return h.call(handle, (*held).Shutdown)
}

// Close ends both, what is written and what is read, and the handle.
func (h *Host) Close(handle int) api.Errno {
	return h.leave(handle, (*held).Close)
}

// Abort gives the connection up, and the handle.
func (h *Host) Abort(handle int) api.Errno {
	return h.leave(handle, (*held).Abort)
}

// Join dials one more leg.
func (h *Host) Join(handle, own, other int, backup bool) api.Errno {
	return h.call(handle, func(x *held, tick int) api.Errno { return x.Join(own, other, backup, tick) })
}

// Tell tells the other side one more address of its own.
func (h *Host) Tell(handle, own int) api.Errno {
	return h.call(handle, func(x *held, tick int) api.Errno { return x.Tell(own, tick) })
}

// Set sets how legs are picked.
func (h *Host) Set(handle, how int) api.Errno {
	return h.call(handle, func(x *held, _ int) api.Errno { return x.Set(how) })
}

// State answers the connection's state.
func (h *Host) State(handle int) (int, bool) {
	x := h.of(handle)
	if x == nil {
		return 0, false
	}
	return x.State(), true
}

// call does something with what a handle stands for that an application has.
func (h *Host) call(handle int, do func(x *held, tick int) api.Errno) api.Errno {
	if h == nil {
		return api.ErrNil
	}
	x := h.of(handle)
	if x == nil {
		return api.ErrNone
	}
	e := do(x, h.tick)
	h.settle(x)
	return e
}

// leave is call, behind which the application has the handle no longer.
func (h *Host) leave(handle int, do func(x *held, tick int) api.Errno) api.Errno {
	return h.call(handle, func(x *held, tick int) api.Errno {
		x.whose = left
		return do(x, tick)
	})
}

// of is what a handle stands for that an application has; nil, if there is none.
func (h *Host) of(handle int) *held {
	if h == nil {
		return nil
	}
	place := slices.IndexFunc(h.held, func(x *held) bool { return x.handle == handle && x.whose == had })
	if place < 0 {
		return nil
	}
	return h.held[place]
}
