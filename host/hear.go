package host

import (
	"slices"

	"ferrybridge/api"
	"ferrybridge/conn"
	"ferrybridge/option"
	"ferrybridge/segment"
)

// Hear hears s, and resets it, if nobody takes it.
func (h *Host) Hear(s api.Segment) {
	if h == nil || !segment.Right(s) || h.taken(s) || s.Rst {
		return
	}
	back := segment.Reply(s)
	back.Rst, back.Acks = true, true
	back.Seq, back.Ack = s.Ack, s.Seq+uint32(segment.Long(s))
	h.segments = append(h.segments, back)
}

// taken tells whether s is some connection's, or joins one, or makes one.
func (h *Host) taken(s api.Segment) bool {
	place := slices.IndexFunc(h.held, func(x *held) bool { return x.Mine(s) })
	if place >= 0 {
		x := h.held[place]
		x.Hear(s, h.tick)
		h.settle(x)
		return true
	}
	if !s.Syn || s.Acks {
		return false
	}
	if join, is := option.Find(s.Opts, api.Join); is {
		return h.joined(s, join.Token)
	}
	_, is := option.Find(s.Opts, api.Capable)
	return is && h.opened(s)
}

// joined tells whether s, a Syn with Join, joins the connection whose token it has.
func (h *Host) joined(s api.Segment, token uint32) bool {
	owner, _ := h.table.Find(token)
	for _, x := range h.held {
		if x.handle == owner {
			e := x.Joined(s, h.tick)
			h.settle(x)
			return e == api.OK
		}
	}
	return false
}

// opened tells whether s, a Syn with Capable, makes a connection, which waits to be accepted.
func (h *Host) opened(s api.Segment) bool {
	port := s.DPort
	if !slices.Contains(h.ports, port) || h.full() || len(h.waiting(port)) >= api.MaxBacklog {
		return false
	}
	key, e := h.take()
	if e != api.OK {
		return false
	}
	// No error can come: s is right, and what makes a connection.
	c, _ := conn.Accept(key, s, h.tick)
	h.add(&held{Conn: c, whose: nobodys, port: port, came: h.tick})
	return true
}
