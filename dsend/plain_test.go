package dsend_test

import (
	"bytes"
	"math"
	"testing"

	"ferrybridge/api"
	"ferrybridge/dsend"
)

// edges are numbers of all sorts.
var edges = []int{
	0, 1, 2, 3, 7, 8, 9, 10, 31, 32, 33, 34, 63, 64, 65, 66, -1, -2, -8, -64, 1000, 65534, 65535, 65536, 1<<31 - 1, 1 << 31, 1<<32 - 1, 1 << 32, 1<<32 + 1, -1 << 32,
	1 << 62, -1 << 62, math.MaxInt - 64, math.MaxInt - 2, math.MaxInt - 1, math.MaxInt, math.MinInt, math.MinInt + 1, math.MinInt + 2, math.MinInt + 64,
}

// dice are numbers of all sorts, always the same.
type dice uint64

func (d *dice) below(n int) int {
	*d = *d*6364136223846793005 + 1442695040888963407
	return int(uint64(*d)>>33) % n
}

// one is true once in so many times.
func (d *dice) one(n int) bool { return d.below(n) == 0 }

// bytes are so many of all sorts.
func (d *dice) bytes(n int) []byte {
	b := make([]byte, n)
	for i := range b {
		b[i] = byte(d.below(256))
	}
	return b
}

// datum is one that was written, and what became of it.
type datum struct {
	b                  byte
	taken, lost, acked bool
}

// plain is a sender that keeps all that was ever written: the number of l's first one is 1.
type plain struct {
	l           []datum
	edge        int
	ended, done bool
}

// before answers the first number of which is doesn't hold.
func (p *plain) before(is func(datum) bool) int {
	for i, x := range p.l {
		if !is(x) {
			return i + 1
		}
	}
	return p.end()
}

func (p *plain) end() int  { return len(p.l) + 1 }
func (p *plain) una() int  { return p.before(func(x datum) bool { return x.acked }) }
func (p *plain) next() int { return p.before(func(x datum) bool { return x.taken }) }
func (p *plain) held() int { return p.end() - p.una() }

func (p *plain) write(b []byte) (int, api.Errno) {
	switch {
	case p.ended:
		return 0, api.ErrClosed
	case p.held() == 64 && len(b) > 0:
		return 0, api.ErrFull
	}
	many := 0
	for _, c := range b {
		if p.held() < 64 {
			p.l = append(p.l, datum{b: c})
			many++
		}
	}
	return many, api.OK
}

func (p *plain) tellEnd() api.Errno {
	if p.ended {
		return api.ErrTwice
	}
	p.ended = true
	return api.OK
}

// run is the first data that may be, one behind the other, at most so many; none of them is lost then, and all are taken.
func (p *plain) run(most int, may func(n int, x datum) bool) (int, []byte) {
	first, b := 0, []byte(nil)
	for i := range p.l {
		is := may(i+1, p.l[i])
		if !is && first > 0 || len(b) == max(1, min(most, 8)) {
			break
		}
		if is {
			if first == 0 {
				first = i + 1
			}
			b = append(b, p.l[i].b)
			p.l[i].taken, p.l[i].lost = true, false
		}
	}
	return first, b
}

func (p *plain) take(most int) (int, []byte) {
	if n, b := p.run(most, func(_ int, x datum) bool { return x.lost }); n > 0 {
		return n, b
	}
	return p.run(most, func(n int, x datum) bool { return !x.taken && n < p.edge })
}

func (p *plain) lose(dsn, long int) int {
	many := 0
	for i := range p.l {
		x, n := &p.l[i], i+1
		// Without sign, as two numbers may be further apart than the greatest int.
		if n < dsn || long <= 0 || uint(n)-uint(dsn) >= uint(long) {
			continue
		}
		if x.taken && !x.acked && !x.lost {
			x.lost = true
			many++
		}
	}
	return many
}

func (p *plain) ack(ack, win int) (int, bool) {
	isEnd := p.ended && p.next() == p.end() && ack == p.end()+1
	if ack < p.una() || ack > p.next() && !isEnd || win < 0 || win > 65535 {
		return 0, false
	}
	many := 0
	for i := range p.l {
		if x := &p.l[i]; i+1 < ack && !x.acked {
			x.acked, x.lost = true, false
			many++
		}
	}
	p.edge = max(p.edge, ack+win)
	p.done = p.done || isEnd
	return many, true
}

func (p *plain) due() (int, bool) {
	for _, x := range p.l {
		if x.lost || !x.taken {
			return 0, false
		}
	}
	if !p.ended || p.done {
		return 0, false
	}
	return p.end(), true
}

// both is a sender, and the same in the plain way: each call is told to both.
type both struct {
	t *testing.T
	x *dsend.Send
	p *plain
}

func newBoth(t *testing.T) both {
	t.Helper()
	b := both{t, dsend.New(), &plain{edge: 33}}
	b.look()
	return b
}

func (b both) write(data []byte) {
	b.t.Helper()
	got, e := b.x.Write(data)
	if want, we := b.p.write(data); got != want || e != we {
		b.t.Errorf("Write of %d: %d, %d, not %d, %d", len(data), got, e, want, we)
	}
	b.look()
}

func (b both) end() {
	b.t.Helper()
	if got, want := b.x.End(), b.p.tellEnd(); got != want {
		b.t.Errorf("End: %d, not %d", got, want)
	}
	b.look()
}

func (b both) take(most int) {
	b.t.Helper()
	got, data := b.x.Take(most)
	if want, wd := b.p.take(most); got != want || !bytes.Equal(data, wd) {
		b.t.Errorf("Take(%d): %d, %q, not %d, %q", most, got, data, want, wd)
	}
	b.look()
}

func (b both) lose(dsn, long int) {
	b.t.Helper()
	if got, want := b.x.Lost(dsn, long), b.p.lose(dsn, long); got != want {
		b.t.Errorf("Lost(%d, %d): %d, not %d", dsn, long, got, want)
	}
	b.look()
}

func (b both) ack(ack, win int) {
	b.t.Helper()
	got, is := b.x.Ack(ack, win)
	if want, may := b.p.ack(ack, win); got != want || is != may {
		b.t.Errorf("Ack(%d, %d): %d, %v, not %d, %v", ack, win, got, is, want, may)
	}
	b.look()
}

// look asks all that tells, and changes nothing.
func (b both) look() {
	b.t.Helper()
	n, is := b.p.due()
	b.is(b.p.una(), b.p.next(), b.p.edge, b.p.held(), n, is, b.p.done)
}

// is holds all that tells against what is written.
func (b both) is(una, next, edge, held, due int, is, done bool) {
	b.t.Helper()
	s := b.x
	if s.Una() != una || s.Next() != next || s.Edge() != edge || s.Held() != held || s.Done() != done {
		b.t.Errorf("Una %d, Next %d, Edge %d, Held %d, Done %v, not %d, %d, %d, %d, %v", s.Una(), s.Next(), s.Edge(), s.Held(), s.Done(), una, next, edge, held, done)
	}
	if n, got := s.Due(); n != due || got != is {
		b.t.Errorf("Due: %d, %v, not %d, %v", n, got, due, is)
	}
}

// rest takes all that is to be sent now, one by one: which of those that were taken are lost shows by it.
func (b both) rest() {
	b.t.Helper()
	for b.left() {
		b.take(1)
	}
	b.take(1)
}

// left tells whether anything is to be sent now.
func (b both) left() bool {
	for i, x := range b.p.l {
		if x.lost || !x.taken && i+1 < b.p.edge {
			return true
		}
	}
	return false
}

// something is a call, whichever the dice tell: most numbers are about where the sender is.
func (b both) something(d *dice) {
	b.t.Helper()
	una, next := b.p.una(), b.p.next()
	switch d.below(16) {
	case 0, 1, 2:
		b.write(d.bytes(d.below(20)))
	case 3, 4, 5, 6:
		b.take(d.below(12) - 1)
	case 7, 8:
		b.lose(una-3+d.below(next-una+6), d.below(12)-1)
	case 9, 10:
		b.ack(una-1+d.below(next-una+4), d.below(40))
	case 11:
		b.ack(next, 32)
	case 12:
		b.ack(una+d.below(9), edges[d.below(len(edges))])
	case 13:
		b.ack(edges[d.below(len(edges))], d.below(40))
	case 14:
		b.lose(edges[d.below(len(edges))], edges[d.below(len(edges))])
	default:
		if d.one(25) {
			b.end()
		}
	}
}
