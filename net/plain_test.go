package net_test

import (
	"bytes"
	"fmt"
	"math"
	"slices"
	"testing"

	"ferrybridge/api"
	"ferrybridge/net"
	"ferrybridge/segment"
)

// room is how many packets a net may have.
const room = 64

// edges are numbers of all sorts.
var edges = []int{
	0, 1, 2, 3, 4, 21, 22, 63, 64, 65, 127, 128, 254, 255, 256, 257, 510, 511, 512, 1000, -1, -2, -3, -64, -255, -256, 1<<31 - 1, 1 << 31, -1 << 31, 1<<32 - 1, 1 << 32, 1<<32 + 1, -1 << 32,
	1 << 62, -1 << 62, math.MaxInt - 1, math.MaxInt, math.MinInt, math.MinInt + 1,
}

// noSides are numbers that no side has.
var noSides = without(edges, func(x int) bool { return x == 0 || x == 1 })

// noBys are numbers by which no byte is spoilt.
var noBys = without(edges, func(x int) bool { return 1 <= x && x <= 255 })

// without is l, but those that are so.
func without[T any](l []T, is func(T) bool) []T {
	var rest []T
	for _, x := range l {
		if !is(x) {
			rest = append(rest, x)
		}
	}
	return rest
}

// noPlaces are numbers that none of many has.
func noPlaces(many int) []int {
	return append(without(edges, func(x int) bool { return 0 <= x && x < many }), many)
}

// dice are numbers of all sorts, always the same.
type dice uint64

func (d *dice) below(n int) int {
	*d = *d*6364136223846793005 + 1442695040888963407
	return int(uint64(*d)>>33) % n
}

// options are right ones of each kind.
var options = []api.Option{
	{Kind: api.Capable, Key: 0x0102030405060708},
	{Kind: api.Join, Token: 0xa1a2a3a4, Nonce: 0xb1b2b3b4, Addr: 3, Backup: true},
	{Kind: api.JoinBack, Mac: 0x1112131415161718, Nonce: 0x191a1b1c},
	{Kind: api.JoinEnd, Mac: math.MaxUint64},
	{Kind: api.Dss, HasAck: true, Ack: 0x11121314, HasMap: true, Dsn: 0x21222324, Len: 8, Fin: true},
	{Kind: api.Add, Addr: 2},
	{Kind: api.Remove},
	{Kind: api.Prio, Backup: true},
	{Kind: api.Fail, Dsn: 1<<32 - 1},
	{Kind: api.Fast, Key: 1},
	{Kind: api.Reset, Reason: 255},
}

// wrongs are segments that aren't right, each by one thing alone.
func wrongs() []api.Segment {
	l := []api.Segment{
		{Src: 4}, {Src: -1}, {Dst: 4}, {Dst: math.MinInt}, {SPort: 1 << 16}, {SPort: -1}, {DPort: 1 << 16}, {DPort: math.MaxInt}, {Win: 1 << 16}, {Win: -1},
		{Opts: slices.Repeat(options[:1], 5)}, {Opts: []api.Option{{}}}, {Opts: []api.Option{options[0], {Kind: 12}}}, {Opts: []api.Option{{Kind: api.Add, Addr: 4}}},
		{Data: make([]byte, 9)}, {Data: make([]byte, 1<<16)},
	}
	for i := range l {
		l[i].Seq = uint32(i)
	}
	return l
}

// segment is one that is right, of any sort.
func (d *dice) segment() api.Segment {
	s := api.Segment{
		Src: d.below(4), Dst: d.below(4), SPort: d.below(1 << 16), DPort: d.below(1 << 16), Seq: uint32(d.below(1<<31)) << d.below(2), Ack: uint32(d.below(1 << 31)),
		Syn: d.below(2) == 0, Acks: d.below(2) == 0, Fin: d.below(2) == 0, Rst: d.below(2) == 0, Win: d.below(1 << 16),
	}
	for range d.below(5) {
		s.Opts = append(s.Opts, options[d.below(len(options))])
	}
	for range d.below(9) {
		s.Data = append(s.Data, byte(d.below(256)))
	}
	return s
}

// segments are none or some, of which some aren't right.
func (d *dice) segments() []api.Segment {
	var l []api.Segment
	wrong := wrongs()
	for range d.below(7) {
		if d.below(4) == 0 {
			l = append(l, wrong[d.below(len(wrong))])
		} else {
			l = append(l, d.segment())
		}
	}
	return l
}

// near is a number from 0 to below many, which seldom is beside that, or anything.
func (d *dice) near(many int) int {
	switch d.below(12) {
	case 0:
		return edges[d.below(len(edges))]
	case 1:
		return []int{-1, many, many - 1, 0}[d.below(4)]
	}
	return d.below(max(many, 1))
}

// numbered are as many right segments, told apart by their Seq.
func numbered(many int) []api.Segment {
	var l []api.Segment
	for i := range many {
		l = append(l, api.Segment{Dst: 1, Seq: uint32(i), Data: []byte{byte(i), 0xff}})
	}
	return l
}

// sent is a packet whose bytes can't be written over.
type sent struct {
	to int
	b  string
}

func (p sent) String() string { return fmt.Sprintf("to %d: %x", p.to, p.b) }

// plain is a net that makes each list anew.
type plain struct{ l []sent }

func (n *plain) send(to int, l []api.Segment) int {
	went := 0
	for _, s := range l {
		b, e := segment.Put(s)
		if (to == 0 || to == 1) && e == api.OK && len(n.l) < room {
			n.l = append(slices.Clone(n.l), sent{to, string(b)})
			went++
		}
	}
	return went
}

func (n *plain) has(i int) bool {
	for j := range n.l {
		if j == i {
			return true
		}
	}
	return false
}

func (n *plain) copy(i int) (sent, api.Errno) {
	if !n.has(i) {
		return sent{}, api.ErrNone
	}
	return n.l[i], api.OK
}

func (n *plain) take(i int) (sent, api.Errno) {
	p, e := n.copy(i)
	var rest []sent
	for j, x := range n.l {
		if j != i {
			rest = append(rest, x)
		}
	}
	n.l = rest
	return p, e
}

func (n *plain) spoil(i, at, by int) api.Errno {
	if !n.has(i) {
		return api.ErrNone
	}
	b := []byte(n.l[i].b)
	if !slices.Contains(places(len(b)), at) || !slices.Contains(bys(), by) {
		return api.ErrArg
	}
	b[at] = byte((int(b[at]) + by) % 256)
	n.l = slices.Clone(n.l)
	n.l[i].b = string(b)
	return api.OK
}

// places are the numbers that so many have.
func places(many int) []int {
	var l []int
	for i := range many {
		l = append(l, i)
	}
	return l
}

// bys are the numbers by which a byte is spoilt.
func bys() []int { return places(256)[1:] }

// told is what a packet tells.
func told(p net.Packet) sent { return sent{p.To, string(p.B)} }

// toldAll is what all of l tell.
func toldAll(l []net.Packet) []sent {
	var all []sent
	for _, p := range l {
		all = append(all, told(p))
	}
	return all
}

// both is a net, and the same in the plain way: each call is told to both.
type both struct {
	t *testing.T
	x *net.Net
	p *plain
}

// newBoth has that sent to side 1, ahead of all else.
func newBoth(t *testing.T, l ...api.Segment) both {
	t.Helper()
	b := both{t, net.New(), &plain{}}
	b.holds()
	if len(l) > 0 {
		b.send(1, l...)
	}
	return b
}

func (b both) send(to int, l ...api.Segment) int {
	b.t.Helper()
	got, want := b.x.Send(to, l...), b.p.send(to, l)
	if got != want {
		b.t.Errorf("Send(%d, %v): %d, not %d", to, l, got, want)
	}
	b.look()
	return got
}

func (b both) take(i int) {
	b.t.Helper()
	got, e := b.x.Take(i)
	want, f := b.p.take(i)
	if told(got) != want || e != f {
		b.t.Errorf("Take(%d): %v, %d, not %v, %d", i, got, e, want, f)
	}
	b.look()
}

func (b both) copy(i int) {
	b.t.Helper()
	got, e := b.x.Copy(i)
	want, f := b.p.copy(i)
	if told(got) != want || e != f {
		b.t.Errorf("Copy(%d): %v, %d, not %v, %d", i, got, e, want, f)
	}
	b.look()
}

func (b both) spoil(i, at, by int) {
	b.t.Helper()
	if e, f := b.x.Spoil(i, at, by), b.p.spoil(i, at, by); e != f {
		b.t.Errorf("Spoil(%d, %d, %d): %d, not %d", i, at, by, e, f)
	}
	b.look()
}

func (b both) clear() {
	b.t.Helper()
	b.x.Clear()
	b.p.l = nil
	b.look()
}

// look asks all that tells.
func (b both) look() {
	b.t.Helper()
	if got := toldAll(b.x.All()); !slices.Equal(got, b.p.l) {
		b.t.Errorf("All: %v, not %v", got, b.p.l)
	}
	if got := b.x.Len(); got != len(b.p.l) {
		b.t.Errorf("Len: %d, not %d", got, len(b.p.l))
	}
}

// holds holds the net against what is written: the Seqs of its packets, all of which are segments'.
func (b both) holds(seqs ...uint32) {
	b.t.Helper()
	b.look()
	var got []uint32
	for i, p := range b.x.All() {
		s, e := segment.Get(p.B)
		if one, f := b.x.Copy(i); e != api.OK || f != api.OK || one.To != p.To || !bytes.Equal(one.B, p.B) {
			b.t.Errorf("the one at %d: %v, %d, %v, %d", i, p, e, one, f)
		}
		got = append(got, s.Seq)
	}
	if !slices.Equal(got, seqs) {
		b.t.Errorf("on their way: %v, not %v", got, seqs)
	}
}

// rest takes all that there is, one by one, from wherever the dice tell.
func (b both) rest(d *dice) {
	b.t.Helper()
	for many := len(b.p.l); many > 0; many-- {
		b.take(d.below(many))
	}
	b.holds()
}

// something is a call, whichever the dice tell.
func (b both) something(d *dice) {
	b.t.Helper()
	i, long := d.near(len(b.p.l)), 22
	if b.p.has(i) {
		long = len(b.p.l[i].b)
	}
	switch d.below(20) {
	case 0, 1, 2, 3:
		b.send(d.near(2), d.segments()...)
	case 4:
		b.send(d.below(2), d.segment())
	case 5, 6, 7, 8, 9:
		b.take(i)
	case 10, 11, 12:
		b.copy(i)
	case 19:
		if d.below(20) == 0 {
			b.clear()
		}
	default:
		by := 1 + d.below(255)
		if d.below(8) == 0 {
			by = edges[d.below(len(edges))]
		}
		b.spoil(i, d.near(long), by)
	}
}
