package net_test

import (
	"math"
	"reflect"
	"slices"
	"testing"

	"ferrybridge/api"
	"ferrybridge/net"
	"ferrybridge/segment"
)

// The chapter's example

func TestExample(t *testing.T) {
	n := net.New()
	if went := n.Send(0, api.Segment{Seq: 1}, api.Segment{Seq: 2}); went != 2 {
		t.Error(went)
	}
	p, e := n.Take(1)
	if s, f := segment.Get(p.B); e != api.OK || f != api.OK || s.Seq != 2 {
		t.Error(p, e, s, f)
	}
}

// P22.1, Send

// A packet has a segment's bytes, as chapter 8 has them, and the side that it was sent to.
func TestSendAsWritten(t *testing.T) {
	for _, c := range []struct {
		s    api.Segment
		want string
	}{
		{api.Segment{},
			"\x00\x00\x00\x00\x00\x00\x00\x00\x00\x00\x00\x00\x00\x00\x00\x00\x00\x00\x00" + "\x00" + "\xff\xff"},
		{api.Segment{Src: 1, Dst: 2, SPort: 0x0304, DPort: 0x0506, Seq: 0x0708090a, Ack: 0x0b0c0d0e, Acks: true, Win: 0x0f10},
			"\x01\x02\x03\x04\x05\x06\x07\x08\x09\x0a\x0b\x0c\x0d\x0e\x02\x0f\x10\x00\x00" + "\x00" + "\xbc\xb8"},
		{api.Segment{Syn: true, Opts: []api.Option{{Kind: api.Prio, Backup: true}, {Kind: api.Add, Addr: 3}}, Data: []byte("abcdefgh")},
			"\x00\x00\x00\x00\x00\x00\x00\x00\x00\x00\x00\x00\x00\x00\x01\x00\x00\x02\x08" + "\x08\x01\x06\x03" + "abcdefgh" + "\x00" + "\x5d\x5e"},
	} {
		for _, to := range []int{0, 1} {
			n, want := net.New(), []sent{{to, c.want}}
			if went := n.Send(to, c.s); went != 1 || n.Len() != 1 {
				t.Errorf("Send(%d, %v): %d, %d on their way", to, c.s, went, n.Len())
			}
			if got := toldAll(n.All()); !slices.Equal(got, want) {
				t.Errorf("All: %v, not %v", got, want)
			}
			if p, e := n.Copy(0); told(p) != want[0] || e != api.OK {
				t.Errorf("Copy: %v, %d, not %v", p, e, want)
			}
			if p, e := n.Take(0); told(p) != want[0] || e != api.OK || n.Len() != 0 {
				t.Errorf("Take: %v, %d, not %v", p, e, want)
			}
		}
	}
}

// A segment's addresses and its options say nothing of the side.
func TestSendToEachSide(t *testing.T) {
	b := newBoth(t)
	b.send(1, api.Segment{Dst: 0, Seq: 1})
	b.send(0, api.Segment{Dst: 1, Seq: 2}, api.Segment{Src: 1, Seq: 3})
	b.send(1, api.Segment{Seq: 4})
	b.holds(1, 2, 3, 4)
	for i, to := range []int{1, 0, 0, 1} {
		if p, e := b.x.Copy(i); p.To != to || e != api.OK {
			t.Errorf("the one at %d goes to %d, %d", i, p.To, e)
		}
	}
}

func TestSendOfNothing(t *testing.T) {
	for many := range 3 {
		b := newBoth(t, numbered(many)...)
		for _, to := range edges {
			if went := b.x.Send(to); went != 0 {
				t.Errorf("Send(%d): %d", to, went)
			}
			if went := b.x.Send(to, []api.Segment{}...); went != 0 {
				t.Errorf("Send(%d) of an empty list: %d", to, went)
			}
		}
		b.holds([]uint32{0, 1}[:many]...)
	}
}

// What isn't right doesn't go, wherever it stands among others.
func TestSendOfWrong(t *testing.T) {
	for i, wrong := range wrongs() {
		b := newBoth(t)
		if went := b.send(0, wrong); went != 0 {
			t.Errorf("%d: %d of one went", i, went)
		}
		b.holds()
		for at := range 4 {
			b.clear()
			if went := b.send(1, slices.Insert(numbered(3), at, wrong)...); went != 3 {
				t.Errorf("%d, at %d: %d of three went", i, at, went)
			}
			b.holds(0, 1, 2)
		}
		b.send(0, wrong, wrong, numbered(2)[1], wrong, numbered(1)[0], wrong)
		b.holds(0, 1, 2, 1, 0)
	}
	b := newBoth(t)
	if went := b.send(0, wrongs()...); went != 0 {
		t.Errorf("%d of all wrong ones went", went)
	}
	b.holds()
}

func TestSendToNoSide(t *testing.T) {
	for many := range 3 {
		b := newBoth(t, numbered(many)...)
		for _, to := range noSides {
			for _, l := range [][]api.Segment{numbered(1), numbered(3), wrongs()} {
				if went := b.send(to, l...); went != 0 {
					t.Errorf("Send(%d): %d", to, went)
				}
			}
		}
		b.holds([]uint32{0, 1}[:many]...)
	}
}

// up tells the numbers from 0 to below many.
func up(many int) []uint32 {
	var l []uint32
	for i := range many {
		l = append(l, uint32(i))
	}
	return l
}

// With less room than is handed over those that are ahead go; what isn't right takes no room.
func TestSendOfMore(t *testing.T) {
	all := numbered(2 * room)
	wrong := wrongs()[0]
	for have := range room + 1 {
		for _, more := range []int{0, 1, 2, room - have, room - have + 1, room} {
			b := newBoth(t)
			b.send(0, all[:have]...)
			went := b.send(1, all[have:have+more]...)
			if want := min(more, room-have); went != want {
				t.Errorf("%d behind %d: %d went, not %d", more, have, went, want)
			}
			b.holds(up(min(have+more, room))...)
		}
		b := newBoth(t)
		b.send(0, all[:have]...)
		b.send(0, append([]api.Segment{wrong, wrong}, all[have:]...)...)
		b.holds(up(room)...)
	}
	b := newBoth(t)
	if went := b.send(0, all...); went != room {
		t.Error(went)
	}
	b.holds(up(room)...)
}

// A net that is full: nothing goes, till one is taken; a copy, or an error, makes no room.
func TestSendToFull(t *testing.T) {
	b := newBoth(t, numbered(room)...)
	for range 3 {
		if went := b.send(0, api.Segment{Seq: 99}) + b.send(1, numbered(3)...) + b.send(0, wrongs()...); went != 0 {
			t.Error(went)
		}
		b.copy(5)
		b.take(room)
		b.take(-1)
		b.spoil(5, 0, 0)
	}
	b.holds(up(room)...)
	for i, from := range []int{0, room - 1, 30, 0, room - 1} {
		b.take(from)
		next := api.Segment{Seq: uint32(200 + i)}
		if went := b.send(i%2, wrongs()[i], next, api.Segment{Seq: 300}); went != 1 {
			t.Errorf("behind a Take: %d", went)
		}
		if went := b.send(0, api.Segment{}); went != 0 {
			t.Errorf("full again: %d", went)
		}
	}
	want := append(up(room)[1:room], 200)
	want = append(want[:room-1], 201)
	want = append(slices.Delete(want, 30, 31), 202)
	want = append(want[1:], 203)
	want = append(want[:room-1], 204)
	b.holds(want...)
}

// P22.1, Take and Copy

// Of each number of packets each one is taken from a net of its own: the others stay as they were, in order, numbered from 0 on.
func TestTake(t *testing.T) {
	for _, many := range []int{1, 2, 3, 4, 5, 33, room - 1, room} {
		for i := range many {
			b := newBoth(t, numbered(many)...)
			p, e := b.x.Take(i)
			if want, _ := b.p.take(i); told(p) != want || e != api.OK {
				t.Errorf("Take(%d) of %d: %v, %d, not %v", i, many, p, e, want)
			}
			left := slices.Delete(up(many), i, i+1)
			b.holds(left...)
			b.send(0, api.Segment{Seq: 500}, api.Segment{Seq: 501})
			b.holds(append(left, []uint32{500, 501}[:min(2, room-many+1)]...)...)
		}
	}
}

// All are taken, one behind the other.
func TestTakeOfAll(t *testing.T) {
	for _, which := range []func(many int) int{
		func(int) int { return 0 },
		func(many int) int { return many - 1 },
		func(many int) int { return many / 2 },
		func(many int) int { return many * 7 % 5 % many },
	} {
		b := newBoth(t, numbered(room)...)
		for many := room; many > 0; many-- {
			b.take(which(many))
			if b.x.Len() != many-1 {
				t.Fatal(b.x.Len(), many)
			}
		}
		b.holds()
		b.take(0)
		b.copy(0)
		b.send(0, numbered(3)...)
		b.holds(0, 1, 2)
	}
}

func TestCopy(t *testing.T) {
	b := newBoth(t, numbered(room)...)
	for range 2 {
		for i := range room {
			p, e := b.x.Copy(i)
			if told(p) != b.p.l[i] || e != api.OK {
				t.Errorf("Copy(%d): %v, %d", i, p, e)
			}
		}
		b.holds(up(room)...)
	}
	b.take(7)
	b.copy(7)
	b.take(7)
	b.holds(slices.Delete(up(room), 7, 9)...)
}

// A place that no packet has: there is none, and nothing beside that.
func TestNoPlace(t *testing.T) {
	for _, many := range []int{0, 1, 2, 3, room - 1, room} {
		b := newBoth(t, numbered(many)...)
		for _, i := range noPlaces(many) {
			for name, call := range map[string]func(int) (net.Packet, api.Errno){"Take": b.x.Take, "Copy": b.x.Copy} {
				if p, e := call(i); p.To != 0 || len(p.B) != 0 || e != api.ErrNone {
					t.Errorf("%s(%d) of %d: %v, %d", name, i, many, p, e)
				}
			}
			b.look()
		}
		b.holds(up(many)...)
		b.clear()
		for _, i := range edges {
			b.take(i)
			b.copy(i)
		}
	}
}

// P22.1, Spoil

// Each byte by each number: that is added to it, and goes round at 256; all else stays.
func TestSpoil(t *testing.T) {
	s := api.Segment{Src: 3, SPort: 255, Seq: 0x01807fff, Syn: true, Win: 0x80fe, Data: []byte("\x00\x01\x7f\x80\xfe\xff")}
	whole, _ := segment.Put(s)
	for at := range whole {
		for _, by := range bys() {
			n := net.New()
			n.Send(0, api.Segment{Seq: 1}, s, api.Segment{Seq: 2})
			want := toldAll(n.All())
			spoilt := slices.Clone(whole)
			spoilt[at] = byte((int(whole[at]) + by) % 256)
			want[1].b = string(spoilt)
			if e := n.Spoil(1, at, by); e != api.OK {
				t.Errorf("Spoil(1, %d, %d): %d", at, by, e)
			}
			if got := toldAll(n.All()); !slices.Equal(got, want) {
				t.Errorf("Spoil(1, %d, %d): %v, not %v", at, by, got, want)
			}
		}
	}
}

// A byte at each of its values is spoilt by each number.
func TestSpoilOfEachByte(t *testing.T) {
	n := net.New()
	n.Send(0, api.Segment{})
	for was := range 256 {
		for _, by := range bys() {
			n.Spoil(0, 4, by)
			p, _ := n.Copy(0)
			if int(p.B[4]) != (was+by)%256 {
				t.Errorf("%d by %d: %d", was, by, p.B[4])
			}
			n.Spoil(0, 4, 256-by)
		}
		n.Spoil(0, 4, 1)
	}
	if p, _ := n.Take(0); p.B[4] != 0 {
		t.Error(p)
	}
}

// What Take, Copy and All tell of a packet that was spoilt is spoilt; one that was taken, or copied, ahead of that isn't.
func TestSpoilTells(t *testing.T) {
	b := newBoth(t, numbered(3)...)
	ahead, _ := b.x.Copy(1)
	was := told(ahead)
	b.spoil(1, 7, 5)
	b.spoil(1, 7, 250)
	b.spoil(2, 0, 255)
	b.copy(1)
	b.take(1)
	b.spoil(1, 0, 1)
	b.spoil(1, 21, 3)
	b.take(1)
	b.holds(0)
	if told(ahead) != was {
		t.Errorf("%v became %v", was, ahead)
	}
}

// Errors, alone and together: that there is none is told ahead of all, and nothing has changed.
func TestSpoilErrors(t *testing.T) {
	for _, many := range []int{0, 1, 2, room} {
		b := newBoth(t, numbered(many)...)
		long := 24
		for _, i := range noPlaces(many) {
			for _, at := range []int{0, long - 1, -1, long, math.MinInt, math.MaxInt} {
				for _, by := range []int{1, 255, 0, 256, -1, math.MinInt, math.MaxInt} {
					if e := b.x.Spoil(i, at, by); e != api.ErrNone {
						t.Errorf("Spoil(%d, %d, %d) of %d: %d", i, at, by, many, e)
					}
				}
			}
		}
		b.holds(up(many)...)
		for _, i := range []int{0, many / 2, many - 1}[:min(many, 3)] {
			if p, _ := b.x.Copy(i); len(p.B) != long {
				t.Fatal(p)
			}
			for _, at := range noPlaces(long) {
				for _, by := range append([]int{1, 2, 128, 255}, noBys...) {
					if e := b.x.Spoil(i, at, by); e != api.ErrArg {
						t.Errorf("Spoil(%d, %d, %d) of %d: %d", i, at, by, many, e)
					}
				}
			}
			for at := range long {
				for _, by := range noBys {
					if e := b.x.Spoil(i, at, by); e != api.ErrArg {
						t.Errorf("Spoil(%d, %d, %d) of %d: %d", i, at, by, many, e)
					}
				}
			}
		}
		b.holds(up(many)...)
	}
}

// The bytes that there are hang on the packet: the last one, and the one just behind it, of packets of all lengths.
func TestSpoilAtTheEnd(t *testing.T) {
	d := dice(22)
	for many := range 5 {
		for long := range 9 {
			s := d.segment()
			s.Opts, s.Data = options[many:2*many], make([]byte, long)
			whole, _ := segment.Put(s)
			b := newBoth(t, api.Segment{}, s, api.Segment{Data: make([]byte, 8), Opts: options[:4]})
			for _, at := range []int{-1, len(whole), len(whole) + 1, len(whole) + 2} {
				if e := b.x.Spoil(1, at, 1); e != api.ErrArg {
					t.Errorf("%d bytes, at %d: %d", len(whole), at, e)
				}
			}
			b.look()
			b.spoil(1, 0, 9)
			b.spoil(1, len(whole)-1, 9)
		}
	}
}

// P22.2

// same tells by another way than the program's whether a and b are the same, nil and empty lists as one.
func same(a, b api.Segment) bool {
	for _, s := range []*api.Segment{&a, &b} {
		s.Opts, s.Data = append([]api.Option{}, s.Opts...), append([]byte{}, s.Data...)
	}
	return reflect.DeepEqual(a, b)
}

// samples are segments that are right, of all sorts; a sum has two bytes of 0, and one two of 255.
func samples() []api.Segment {
	l := []api.Segment{
		{},
		{Seq: 0xffff},
		{Src: 3, Dst: 3, SPort: 65535, DPort: 65535, Seq: math.MaxUint32, Ack: math.MaxUint32, Syn: true, Acks: true, Fin: true, Rst: true, Win: 65535, Opts: slices.Repeat(options[4:5], 4), Data: []byte("\xff\xff\xff\xff\xff\xff\xff\xff")},
		{Data: make([]byte, 8)},
		{Data: []byte{0}},
	}
	for i, o := range options {
		l = append(l, api.Segment{Seq: uint32(i), Opts: []api.Option{o}, Data: make([]byte, i%9)})
	}
	d := dice(8)
	for range 20 {
		l = append(l, d.segment())
	}
	return l
}

// Any one byte by anything: it isn't a segment's any more, but it is the same one's again once the rest of 256 is added; the other packets are still theirs.
func TestSpoiltIsNoSegment(t *testing.T) {
	l := samples()
	n := net.New()
	if went := n.Send(1, l...); went != len(l) {
		t.Fatal(went)
	}
	for i, s := range l {
		whole, e := n.Copy(i)
		if e != api.OK {
			t.Fatal(e)
		}
		for at := range whole.B {
			for _, by := range bys() {
				if e := n.Spoil(i, at, by); e != api.OK {
					t.Fatal(i, at, by, e)
				}
				p, _ := n.Copy(i)
				if got, e := segment.Get(p.B); e != api.ErrSum || !same(got, api.Segment{}) {
					t.Errorf("%d, the byte %d by %d: %v, %d", i, at, by, got, e)
				}
				n.Spoil(i, at, 256-by)
			}
			n.Spoil(i, at, 77)
			for j, p := range n.All() {
				if got, e := segment.Get(p.B); j != i && (e != api.OK || !same(got, l[j])) {
					t.Errorf("%d, the byte %d: the one at %d is %v, %d", i, at, j, got, e)
				}
			}
			n.Spoil(i, at, 256-77)
		}
		p, _ := n.Copy(i)
		if got, e := segment.Get(p.B); e != api.OK || !same(got, s) {
			t.Errorf("%d: %v, %d, not %v", i, got, e, s)
		}
	}
}

// Those sums are what they are called.
func TestSamplesHaveSuchSums(t *testing.T) {
	for i, want := range []string{"\xff\xff", "\x00\x00"} {
		if b, e := segment.Put(samples()[i]); e != api.OK || string(b[len(b)-2:]) != want {
			t.Errorf("%x, %d", b, e)
		}
	}
}

// P22.1, All, Len and Clear

func TestClear(t *testing.T) {
	for _, many := range []int{0, 1, 2, room - 1, room} {
		b := newBoth(t, numbered(many)...)
		for range 2 {
			b.clear()
			b.holds()
			b.take(0)
			b.copy(0)
			b.spoil(0, 0, 1)
			b.clear()
			if went := b.send(0, numbered(3)...); went != 3 {
				t.Error(went)
			}
			b.holds(0, 1, 2)
			if went := b.send(1, numbered(room)...); went != room-3 {
				t.Error(went)
			}
			b.take(2)
		}
	}
}

// Over long runs of whatever calls it is what a plain list tells.
func TestLongRuns(t *testing.T) {
	full, empty := 0, 0
	for seed := range 60 {
		d := dice(seed)
		b := newBoth(t)
		for range 400 {
			b.something(&d)
			switch b.x.Len() {
			case 0:
				empty++
			case room:
				full++
			}
		}
		b.rest(&d)
	}
	for seed := range 20 {
		d := dice(seed)
		b := newBoth(t)
		for range 300 {
			b.send(d.below(2), d.segments()...)
			if d.below(2) == 0 {
				b.something(&d)
			}
			if b.x.Len() == room {
				full++
			}
		}
		b.rest(&d)
	}
	if empty == 0 || full == 0 {
		t.Errorf("on their way the runs were empty %d times, and full %d times", empty, full)
	}
}

// R1, a net that is nil

func TestNil(t *testing.T) {
	var n *net.Net
	for _, to := range edges {
		for _, l := range [][]api.Segment{nil, numbered(1), numbered(room + 1), wrongs()} {
			if went := n.Send(to, l...); went != 0 {
				t.Errorf("Send(%d): %d", to, went)
			}
		}
	}
	for _, i := range edges {
		for name, call := range map[string]func(int) (net.Packet, api.Errno){"Take": n.Take, "Copy": n.Copy} {
			if p, e := call(i); p.To != 0 || len(p.B) != 0 || e != api.ErrNil {
				t.Errorf("%s(%d): %v, %d", name, i, p, e)
			}
		}
		for _, at := range edges {
			for _, by := range edges {
				if e := n.Spoil(i, at, by); e != api.ErrNil {
					t.Errorf("Spoil(%d, %d, %d): %d", i, at, by, e)
				}
			}
		}
	}
	n.Clear()
	if l := n.All(); len(l) != 0 || n.Len() != 0 {
		t.Error(l, n.Len())
	}
}

// R1: it ends, and doesn't panic, at all arguments.
func TestAnyArguments(t *testing.T) {
	for _, many := range []int{0, 1, room} {
		b := newBoth(t, numbered(many)...)
		for _, i := range edges {
			for _, at := range edges {
				for _, by := range edges {
					b.x.Spoil(i, at, by)
					b.p.spoil(i, at, by)
				}
			}
			b.copy(i)
			b.take(i)
			b.send(i, api.Segment{Seq: 7})
		}
	}
	long := make([]api.Segment, 1<<17)
	for i := range long {
		long[i].Src = 4
	}
	long = append(long, numbered(2)...)
	b := newBoth(t)
	if went := b.x.Send(0, long...); went != 2 {
		t.Error(went)
	}
	if went := b.x.Send(0, api.Segment{Data: make([]byte, 1<<24)}, api.Segment{Opts: make([]api.Option, 1<<17)}); went != 0 {
		t.Error(went)
	}
}
