package drecv_test

import (
	"bytes"
	"math"
	"testing"

	"ferrybridge/api"
	"ferrybridge/drecv"
)

// edges are numbers of all sorts.
var edges = []int{
	0, 1, 2, 3, 7, 8, 9, 10, 31, 32, 33, 34, 35, 63, 64, 65, 66, -1, -2, -8, -32, -64, 1000, 65535, 65536, 1<<31 - 1, 1 << 31, 1<<32 - 1, 1 << 32, 1<<32 + 1, -1 << 32, -1<<32 + 1,
	1 << 62, -1 << 62, math.MaxInt - 64, math.MaxInt - 2, math.MaxInt - 1, math.MaxInt, math.MinInt, math.MinInt + 1, math.MinInt + 2, math.MinInt + 64,
}

// dice are numbers of all sorts, always the same.
type dice uint64

func (d *dice) below(n int) int {
	*d = *d*6364136223846793005 + 1442695040888963407
	return int(uint64(*d)>>33) % n
}

// one is true once in so many times.
func (d *dice) one(n int) bool { return d.below(n) == 0 }

// bytes are so many of all sorts.
func (d *dice) bytes(n int) []byte {
	b := make([]byte, n)
	for i := range b {
		b[i] = byte(d.below(256))
	}
	return b
}

// plain is a receiver that keeps all that ever came, by its number, how many of them were read, and the end's number (0: none).
type plain struct {
	came      map[int]byte
	read, end int
}

func (p *plain) next() int {
	for n := 1; ; n++ {
		if _, is := p.came[n]; !is {
			return n
		}
	}
}

func (p *plain) edge() int   { return p.read + 1 + 32 }
func (p *plain) ready() int  { return p.next() - 1 - p.read }
func (p *plain) ended() bool { return p.end > 0 && p.next() == p.end }
func (p *plain) win() int    { return p.edge() - p.next() }

func (p *plain) ack() int {
	if p.ended() {
		return p.next() + 1
	}
	return p.next()
}

func (p *plain) put(dsn int, b []byte) int {
	many := 0
	for i, c := range b {
		// Behind the greatest int comes the least one, of which nothing comes either.
		n := dsn + i
		_, is := p.came[n]
		if is || n < 1 || n >= p.edge() || p.end > 0 && n >= p.end {
			continue
		}
		p.came[n] = c
		many++
	}
	return many
}

func (p *plain) tellEnd(dsn int) bool {
	for n := range p.came {
		if dsn <= n {
			return false
		}
	}
	if dsn < 1 || dsn > p.edge() || p.end > 0 && p.end != dsn {
		return false
	}
	p.end = dsn
	return true
}

func (p *plain) take(most int) ([]byte, api.Errno) {
	switch {
	case p.ready() == 0 && p.ended():
		return nil, api.ErrClosed
	case p.ready() == 0:
		return nil, api.ErrWait
	}
	var b []byte
	for len(b) < most && p.ready() > 0 {
		p.read++
		b = append(b, p.came[p.read])
	}
	return b, api.OK
}

// both is a receiver, and the same in the plain way: each call is told to both.
type both struct {
	t *testing.T
	x *drecv.Recv
	p *plain
}

func newBoth(t *testing.T) both {
	t.Helper()
	b := both{t, drecv.New(), &plain{came: map[int]byte{}}}
	b.look()
	return b
}

func (b both) put(dsn int, data []byte) {
	b.t.Helper()
	got := b.x.Put(dsn, data)
	if want := b.p.put(dsn, data); got != want {
		b.t.Errorf("Put(%d, %q): %d, not %d", dsn, data, got, want)
	}
	b.look()
}

func (b both) end(dsn int) {
	b.t.Helper()
	got := b.x.End(dsn)
	if want := b.p.tellEnd(dsn); got != want {
		b.t.Errorf("End(%d): %v, not %v", dsn, got, want)
	}
	b.look()
}

func (b both) read(most int) {
	b.t.Helper()
	got, e := b.x.Read(most)
	if want, we := b.p.take(most); !bytes.Equal(got, want) || e != we {
		b.t.Errorf("Read(%d): %q, %d, not %q, %d", most, got, e, want, we)
	}
	b.look()
}

// look asks all that tells, and changes nothing.
func (b both) look() {
	b.t.Helper()
	b.is(b.p.ack(), b.p.win(), b.p.ready(), b.p.ended())
}

// is holds all that tells against what is written.
func (b both) is(ack, win, ready int, ended bool) {
	b.t.Helper()
	r := b.x
	if r.Ack() != ack || r.Win() != win || r.Ready() != ready || r.Ended() != ended {
		b.t.Errorf("Ack %d, Win %d, Ready %d, Ended %v, not %d, %d, %d, %v", r.Ack(), r.Win(), r.Ready(), r.Ended(), ack, win, ready, ended)
	}
}

// rest fills what is missing up to the edge, or the end, one by one, and reads all: what came ahead shows by it.
func (b both) rest() {
	b.t.Helper()
	for n := b.p.next(); n <= b.p.edge()+1; n++ {
		b.put(n, []byte{'?'})
	}
	b.read(b.p.ready())
	b.read(1)
}

// something is a call, whichever the dice tell: most numbers are about where the receiver is.
func (b both) something(d *dice) {
	b.t.Helper()
	next, edge := b.p.next(), b.p.edge()
	switch d.below(16) {
	case 0, 1, 2, 3, 4:
		b.put(next-4+d.below(edge-next+8), d.bytes(d.below(9)))
	case 5, 6:
		b.put(next-d.below(5), d.bytes(d.below(12)))
	case 7:
		b.put(next-d.below(5), d.bytes(d.below(70)))
	case 8:
		b.put(edges[d.below(len(edges))], d.bytes(d.below(70)))
	case 9, 10, 11:
		b.read(d.below(12) - 1)
	case 12:
		b.read(d.below(50))
	case 13:
		b.read(edges[d.below(len(edges))])
	case 14:
		if d.one(4) {
			b.end(edges[d.below(len(edges))])
		}
	default:
		if d.one(4) {
			b.end(next - 2 + d.below(edge-next+4))
		}
	}
}
