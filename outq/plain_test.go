package outq_test

import (
	"bytes"
	"slices"
	"testing"

	"ferrybridge/api"
	"ferrybridge/outq"
)

const (
	round    = 1 << 32
	greatest = round - 1
)

// seqs are where queues begin: the edges, those about half of all numbers, and some of all sorts.
var seqs = []uint32{0, 1, 5, 1<<31 - 3, 1<<31 - 1, 1 << 31, 1<<31 + 1, 0xdeadbeef, greatest - 9, greatest - 3, greatest - 1, greatest}

// dice are numbers of all sorts, always the same.
type dice uint64

func (d *dice) below(n int) int {
	*d = *d*6364136223846793005 + 1442695040888963407
	return int(uint64(*d)>>33) % n
}

// piece is one of any sort.
func (d *dice) piece() api.Piece {
	p := api.Piece{Seq: uint32(d.below(1 << 31)), Syn: d.below(5) == 0, Fin: d.below(5) == 0, Dsn: d.below(9) - 2, Last: d.below(3) == 0}
	for range d.below(6) {
		p.Data = append(p.Data, byte(d.below(256)))
	}
	return p
}

// plain is a queue whose numbers don't go round: where each piece begins and ends is counted on from the queue's first number.
type plain struct {
	end int
	l   []held
}

type held struct {
	from, to int
	p        api.Piece
}

func (q *plain) push(p api.Piece) api.Piece {
	p.Seq = uint32(q.end % round)
	p.Data = append([]byte(nil), p.Data...)
	to := q.end + len(p.Data)
	if p.Syn {
		to++
	}
	if p.Fin {
		to++
	}
	if to > q.end {
		q.l = append(q.l, held{q.end, to, p})
	}
	q.end = to
	return p
}

func (q *plain) begin() int {
	if len(q.l) == 0 {
		return q.end
	}
	return q.l[0].from
}

func (q *plain) ack(ack uint32) ([]api.Piece, bool) {
	at := q.begin()
	for at%round != int(ack) {
		if at == q.end {
			return nil, false
		}
		at++
	}
	var gone []api.Piece
	var left []held
	for _, h := range q.l {
		if h.to <= at {
			gone = append(gone, h.p)
		} else {
			left = append(left, h)
		}
	}
	q.l = left
	return gone, true
}

func (q *plain) all() []api.Piece {
	var l []api.Piece
	for _, h := range q.l {
		l = append(l, h.p)
	}
	return l
}

// same holds pieces, and lists of them, against each other: nil and empty are one.
func same(a, b api.Piece) bool {
	return a.Seq == b.Seq && a.Syn == b.Syn && a.Fin == b.Fin && bytes.Equal(a.Data, b.Data) && a.Dsn == b.Dsn && a.Last == b.Last
}

func sameAll(a, b []api.Piece) bool {
	return slices.EqualFunc(a, b, same)
}

// both is a queue, and the same in the plain way: each call is told to both.
type both struct {
	t *testing.T
	x *outq.Queue
	p *plain
}

func newBoth(t *testing.T, seq uint32, l ...api.Piece) both {
	t.Helper()
	b := both{t, outq.New(seq), &plain{end: int(seq)}}
	b.look()
	for _, p := range l {
		b.push(p)
	}
	return b
}

func (b both) push(p api.Piece) {
	b.t.Helper()
	if got, want := b.x.Push(p), b.p.push(p); !same(got, want) {
		b.t.Errorf("Push(%v): %v, not %v", p, got, want)
	}
	b.look()
}

func (b both) ack(ack uint32) {
	b.t.Helper()
	was := b.p.all()
	got, is := b.x.Ack(ack)
	want, may := b.p.ack(ack)
	if !sameAll(got, want) || is != may {
		b.t.Errorf("Ack(%d): %v, %v, not %v, %v, of %v", ack, got, is, want, may, was)
	}
	b.look()
}

// look asks all that tells.
func (b both) look() {
	b.t.Helper()
	want := b.p.all()
	if got := b.x.All(); !sameAll(got, want) {
		b.t.Errorf("All: %v, not %v", got, want)
	}
	if got := b.x.Len(); got != len(want) {
		b.t.Errorf("Len: %d, not %d", got, len(want))
	}
	if got, want := b.x.Begin(), uint32(b.p.begin()%round); got != want {
		b.t.Errorf("Begin: %d, not %d", got, want)
	}
	if got, want := b.x.End(), uint32(b.p.end%round); got != want {
		b.t.Errorf("End: %d, not %d", got, want)
	}
}

// holds holds the queue against what is written.
func (b both) holds(begin, end uint32, l ...api.Piece) {
	b.t.Helper()
	if got := b.x.All(); !sameAll(got, l) {
		b.t.Errorf("All: %v, not %v", got, l)
	}
	if b.x.Begin() != begin || b.x.End() != end || b.x.Len() != len(l) {
		b.t.Errorf("Begin %d, End %d, Len %d, not %d, %d, %d", b.x.Begin(), b.x.End(), b.x.Len(), begin, end, len(l))
	}
	b.look()
}

// something is a call, whichever the dice tell: most acknowledgements are about where the queue is.
func (b both) something(d *dice) {
	b.t.Helper()
	long := b.p.end - b.p.begin()
	switch d.below(7) {
	case 0, 1, 2:
		b.push(d.piece())
	case 3:
		b.ack(uint32(d.below(1<<31)) << 1)
	default:
		b.ack(uint32((b.p.begin() + round + d.below(long+5) - 2) % round))
	}
}
