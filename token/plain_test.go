package token_test

import (
	"crypto/sha256"
	"encoding/binary"
	"math"
	"slices"
	"testing"

	"ferrybridge/api"
	"ferrybridge/token"
)

const (
	most       = 64
	quarantine = 10
)

// of is a key's token, reckoned another way.
func of(key uint64) uint32 {
	digest := sha256.Sum256(binary.BigEndian.AppendUint64(nil, key))
	return binary.BigEndian.Uint32(digest[:])
}

// ends are keys whose tokens are the least and the greatest ones, and those about the midst, in no order.
var ends = []struct {
	key   uint64
	token uint32
}{
	{1018580179, 1 << 31}, {63069557, 1<<32 - 1}, {1601298533, 0}, {8705220251, 1<<31 - 1}, {5021096865, 1<<32 - 2}, {2653951730, 1},
}

// twins are unlike keys of one token, by twos.
var twins = [][2]uint64{{50799, 58968}, {99408, 111439}, {72651, 127846}, {13953, 130388}}

// owners are of all sorts, in no order.
var owners = []int{7, -1, math.MaxInt, 0, 1 << 40, math.MinInt, 1, -64, math.MaxInt - 1, math.MinInt + 1}

// upTo are the keys from from on, many of them.
func upTo(from uint64, many int) []uint64 {
	l := make([]uint64, many)
	for i := range l {
		l[i] = from + uint64(i)
	}
	return l
}

// dice are numbers of all sorts, always the same.
type dice uint64

func (d *dice) below(n int) int {
	*d = *d*6364136223846793005 + 1442695040888963407
	return int(uint64(*d)>>33) % n
}

// plain is a table in the plainest way: entries in the order of their tokens, all of them gone through each time.
type plain struct {
	capacity int
	l        []token.Entry
}

func (p *plain) has(token uint32) int {
	for i, e := range p.l {
		if e.Token == token {
			return i
		}
	}
	return -1
}

func (p *plain) take(owner int, keys ...uint64) (uint64, int, api.Errno) {
	if len(p.l) == p.capacity {
		return 0, 0, api.ErrTable
	}
	for i, k := range keys {
		if p.has(of(k)) < 0 {
			at := 0
			for at < len(p.l) && p.l[at].Token < of(k) {
				at++
			}
			p.l = slices.Insert(p.l, at, token.Entry{Token: of(k), Owner: owner, Live: true})
			return k, i, api.OK
		}
	}
	return 0, len(keys), api.ErrNone
}

func (p *plain) free(which uint32, tick int) api.Errno {
	i := p.has(which)
	if i < 0 || !p.l[i].Live {
		return api.ErrNone
	}
	p.l[i] = token.Entry{Token: which, Until: tick + quarantine}
	return api.OK
}

func (p *plain) tick(tick int) int {
	was := len(p.l)
	p.l = slices.DeleteFunc(p.l, func(e token.Entry) bool { return !e.Live && e.Until <= tick })
	return was - len(p.l)
}

func (p *plain) find(which uint32) (int, bool) {
	i := p.has(which)
	if i < 0 || !p.l[i].Live {
		return 0, false
	}
	return p.l[i].Owner, true
}

// both is a table, and the same in the plainest way: each call is asked of both.
type both struct {
	t *testing.T
	x *token.Table
	p *plain
}

func newBoth(t *testing.T, capacity int) both {
	t.Helper()
	b := both{t, token.New(capacity), &plain{capacity: min(max(capacity, 1), most)}}
	b.look()
	return b
}

func (b both) take(owner int, keys ...uint64) {
	b.t.Helper()
	k, n, e := b.x.Take(owner, keys...)
	if wk, wn, we := b.p.take(owner, keys...); k != wk || n != wn || e != we {
		b.t.Errorf("Take(%d, %d): %d, %d, %d, not %d, %d, %d", owner, keys, k, n, e, wk, wn, we)
	}
}

func (b both) free(which uint32, tick int) {
	b.t.Helper()
	if got, want := b.x.Free(which, tick), b.p.free(which, tick); got != want {
		b.t.Errorf("Free(%08x, %d): %d, not %d", which, tick, got, want)
	}
}

func (b both) tick(tick int) {
	b.t.Helper()
	if got, want := b.x.Tick(tick), b.p.tick(tick); got != want {
		b.t.Errorf("Tick(%d): %d, not %d", tick, got, want)
	}
}

func (b both) find(which uint32) {
	b.t.Helper()
	got, live := b.x.Find(which)
	if want, wants := b.p.find(which); got != want || live != wants {
		b.t.Errorf("Find(%08x): %d, %v, not %d, %v", which, got, live, want, wants)
	}
}

// look asks all that tells, and changes nothing: of each entry, and of some tokens that are about them, or nobody's.
func (b both) look() {
	b.t.Helper()
	l := b.x.All()
	if !slices.Equal(l, b.p.l) {
		b.t.Errorf("All: %v, not %v", l, b.p.l)
	}
	if len(l) > b.p.capacity {
		b.t.Errorf("%d entries, with room for %d", len(l), b.p.capacity)
	}
	for i, e := range b.p.l {
		b.find(e.Token)
		b.find(e.Token - 1)
		b.find(e.Token + 1)
		if i > 0 && i < len(l) && l[i-1].Token >= l[i].Token {
			b.t.Errorf("All: %08x ahead of %08x", l[i-1].Token, l[i].Token)
		}
	}
	for _, which := range []uint32{0, 1, 1<<31 - 1, 1 << 31, 1<<32 - 1, of(0), of(1<<64 - 1)} {
		b.find(which)
	}
}
