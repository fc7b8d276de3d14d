package segment

import (
	"ferrybridge/api"
	"ferrybridge/octet"
)

// The places of the numbers ahead of the options.
const (
	atSrc = iota
	atDst
	atSPort
	atDPort
	atSeq
	atAck
	atFlags
	atWin
	atOpts
	atData
	places
)

// widths are how many bytes each of these numbers has.
var widths = [places]int{atSrc: 1, atDst: 1, atSPort: 2, atDPort: 2, atSeq: 4, atAck: 4, atFlags: 1, atWin: 2, atOpts: 1, atData: 1}

// The flags' bits, and the least number that no flags make.
const (
	synBit = 1 << iota
	acksBit
	finBit
	rstBit
	noFlag
)

// head is the numbers ahead of the options, each at its place.
type head [places]uint64

// headOf is s's head.
func headOf(s api.Segment) head {
	return head{
		atSrc:   uint64(s.Src),
		atDst:   uint64(s.Dst),
		atSPort: uint64(s.SPort),
		atDPort: uint64(s.DPort),
		atSeq:   uint64(s.Seq),
		atAck:   uint64(s.Ack),
		atFlags: bits(s.Syn, s.Acks, s.Fin, s.Rst),
		atWin:   uint64(s.Win),
		atOpts:  uint64(len(s.Opts)),
		atData:  uint64(len(s.Data)),
	}
}

// headIn answers the head that b begins with, and what is behind it.
func headIn(b []byte) (head, []byte, api.Errno) {
	var h head
	for place, w := range widths {
		n, rest, e := octet.Take(b, w)
		if e != api.OK {
			return head{}, nil, e
		}
		h[place], b = n, rest
	}
	return h, b, api.OK
}

// bytes are h's numbers, one behind the other.
func (h head) bytes() []byte {
	var b []byte
	for place, n := range h {
		b = octet.Put(b, n, widths[place])
	}
	return b
}

// segment is what h tells of a segment: all but its options and its data.
func (h head) segment() api.Segment {
	flags := h[atFlags]
	return api.Segment{
		Src:   int(h[atSrc]),
		Dst:   int(h[atDst]),
		SPort: int(h[atSPort]),
		DPort: int(h[atDPort]),
		Seq:   uint32(h[atSeq]),
		Ack:   uint32(h[atAck]),
		Syn:   flags&synBit != 0,
		Acks:  flags&acksBit != 0,
		Fin:   flags&finBit != 0,
		Rst:   flags&rstBit != 0,
		Win:   int(h[atWin]),
	}
}

// bits is a number with a bit for each truth, from synBit on upward.
func bits(l ...bool) uint64 {
	var n uint64
	for i, one := range l {
		if one {
			n |= synBit << i
		}
	}
	return n
}
