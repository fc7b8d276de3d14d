package segment_test

import (
	"bytes"
	"fmt"
	"math"
	"slices"
	"testing"

	"ferrybridge/api"
	"ferrybridge/segment"
)

// guarded is a slice with spare room behind it; what stands in both is known.
type guarded struct{ given, whole, was []byte }

func guard(b []byte, spare string) guarded {
	whole := append(bytes.Clone(b), spare...)
	return guarded{given: whole[:len(b)], whole: whole, was: bytes.Clone(whole)}
}

func (g guarded) check(t *testing.T, when string) {
	t.Helper()
	if !bytes.Equal(g.whole, g.was) {
		t.Errorf("%s: %x became %x", when, g.was, g.whole)
	}
}

// scribble writes over all of b, spare room included.
func scribble(b []byte) {
	b = b[:cap(b)]
	for i := range b {
		b[i] ^= 0xff
	}
}

// scribbleOptions writes over all of l, spare room included.
func scribbleOptions(l []api.Option) {
	l = l[:cap(l)]
	for i := range l {
		l[i] = api.Option{Kind: -1, Key: 77}
	}
}

// roomy is s with spare room behind both of its lists, and what stands there.
type roomy struct {
	s    api.Segment
	opts []api.Option
	data guarded
	was  []api.Option
}

func room(s api.Segment) roomy {
	opts := append(slices.Clone(s.Opts), options[4].o, api.Option{Kind: 99}, api.Option{})
	data := guard(s.Data, "spare room")
	r := roomy{s: s, opts: opts, data: data, was: slices.Clone(opts)}
	r.s.Opts, r.s.Data = opts[:len(s.Opts)], data.given
	return r
}

func (r roomy) check(t *testing.T, when string) {
	t.Helper()
	r.data.check(t, when)
	if !slices.Equal(r.opts, r.was) {
		t.Errorf("%s: %+v became %+v", when, r.was, r.opts)
	}
}

// wrongs are segments that aren't right.
func wrongs() []api.Segment {
	l := []api.Segment{{Src: 4}, {Dst: -1}, {SPort: 65536}, {DPort: -1}, {Win: math.MinInt}, {Opts: wrongOptions[:1]}, {Opts: make([]api.Option, 5)}, {Data: make([]byte, 9)}}
	for name := range unlike {
		s := full().s
		unlike[name](&s)
		if !segment.Right(s) {
			l = append(l, s)
		}
	}
	return l
}

// texts are bytes of all ways: good ones, and such as each error is told of.
func texts() [][]byte {
	l := [][]byte{nil, {}, {0}, {255, 255}, {0, 0}, seal(make([]byte, 16)), raw(bad(0, 0), ""), raw(bad(5, 9), goods(5)+"abcdefghi"),
		raw(counts(1, 0), "\x0c"), raw(counts(1, 0), "\x08"), raw(counts(2, 0), "\x08\x01\x05"), raw(counts(0, 7), "abc"), raw(counts(0, 0), "abc"), raw(counts(0, 9), "abcdefghi")}
	for _, m := range samples() {
		l = append(l, m.b, m.b[:len(m.b)-1], m.b[:len(m.b)-2])
	}
	return l
}

// R4, what is handed in

func TestGivenIsNotChanged(t *testing.T) {
	l := wrongs()
	for _, m := range samples() {
		l = append(l, m.s)
	}
	for i, s := range l {
		r, other := room(s), room(l[(i+1)%len(l)])
		segment.Right(r.s)
		segment.Put(r.s)
		segment.Long(r.s)
		segment.Reply(r.s)
		segment.Same(r.s, other.s)
		segment.Same(r.s, room(s).s)
		r.check(t, place(i))
		other.check(t, place(i))
	}
	for _, b := range texts() {
		g := guard(b, "spare room")
		segment.Get(g.given)
		g.check(t, "Get")
	}
}

// R4, what is answered

func TestPutIsNewMemory(t *testing.T) {
	for _, m := range samples() {
		r := room(m.s)
		kept, _ := segment.Put(r.s)
		other, _ := segment.Put(r.s)
		scribble(other)
		r.check(t, "the answer written over")
		if !bytes.Equal(kept, m.b) {
			t.Errorf("Put(%+v): an answer shares with an earlier one", m.s)
		}
		if again, e := segment.Put(r.s); !bytes.Equal(again, m.b) || e != api.OK {
			t.Errorf("Put(%+v): %x, %d, once an answer was written over", m.s, again, e)
		}
		scribble(r.s.Data)
		scribbleOptions(r.s.Opts)
		if !bytes.Equal(kept, m.b) {
			t.Errorf("Put(%+v): an answer changes with what was handed in", m.s)
		}
	}
}

func TestGetIsNewMemory(t *testing.T) {
	for _, m := range samples() {
		g := guard(m.b, "spare room")
		kept, _ := segment.Get(g.given)
		other, _ := segment.Get(g.given)
		scribble(other.Data)
		scribbleOptions(other.Opts)
		g.check(t, "the answer written over")
		if !equal(kept, m.s) {
			t.Errorf("Get(%x): an answer shares with an earlier one: %+v", m.b, kept)
		}
		if again, e := segment.Get(g.given); !equal(again, m.s) || e != api.OK {
			t.Errorf("Get(%x): %+v, %d, once an answer was written over", m.b, again, e)
		}
		scribble(g.given)
		if !equal(kept, m.s) {
			t.Errorf("Get(%x): an answer changes with what was handed in: %+v", m.b, kept)
		}
	}
}

// A reply has no list at all, so it shares none; what it was told of may change.
func TestReplyIsNewMemory(t *testing.T) {
	for _, m := range samples() {
		r := room(m.s)
		kept := segment.Reply(r.s)
		if cap(kept.Opts) != 0 || cap(kept.Data) != 0 {
			t.Errorf("Reply(%+v): %+v, with room for %d and %d", m.s, kept, cap(kept.Opts), cap(kept.Data))
		}
		scribble(r.s.Data)
		scribbleOptions(r.s.Opts)
		if !equal(kept, segment.Reply(m.s)) {
			t.Errorf("Reply(%+v): %+v", m.s, kept)
		}
	}
}

// R5

// answers are what the calls answer of two segments, and of bytes.
func answers(a, b api.Segment, text []byte) string {
	put, e := segment.Put(a)
	got, f := segment.Get(text)
	got.Opts, got.Data = append([]api.Option{}, got.Opts...), append([]byte{}, got.Data...)
	return fmt.Sprint(segment.Right(a), put, e, got, f, segment.Long(a), segment.Reply(a), segment.Same(a, b))
}

// Asked again each call answers likewise, whatever was asked between, and whatever stands in the spare room.
func TestSameArgumentsSameAnswers(t *testing.T) {
	l, b := wrongs(), texts()
	for _, m := range samples() {
		l = append(l, m.s)
	}
	for i := range max(len(l), len(b)) {
		one, other, text := l[i%len(l)], l[i/2%len(l)], b[i%len(b)]
		first := answers(one, other, text)
		answers(l[(i+1)%len(l)], one, b[(i+1)%len(b)])
		answers(api.Segment{Src: math.MinInt}, api.Segment{}, nil)
		for _, spare := range []string{"", "\x00\x00\x00\x00\x00\x00\x00\x00", "\xff\xff\xff\xff\xff\xff\xff\xff"} {
			if again := answers(room(one).s, room(other).s, guard(text, spare).given); again != first {
				t.Errorf("%d: %s, %s", i, first, again)
			}
		}
	}
}

// R1

// Each call ends, of long lists and long bytes too.
func TestMany(t *testing.T) {
	long := api.Segment{Opts: slices.Repeat([]api.Option{{Kind: api.Prio}}, 200000), Data: make([]byte, 1<<24), Syn: true, Fin: true}
	notRight(t, "long lists", long)
	if got := segment.Long(long); got != 1<<24+2 {
		t.Errorf("Long: %d", got)
	}
	if got := segment.Reply(long); !equal(got, api.Segment{}) {
		t.Errorf("Reply: %+v", got)
	}
	other := copied(long)
	if !segment.Same(long, other) {
		t.Error("Same: no")
	}
	other.Data[len(other.Data)-1]++
	if segment.Same(long, other) {
		t.Error("Same of another last byte: yes")
	}
	for _, n := range []int{0, 4, 255} {
		b := seal(append(open(raw(counts(n, 8), goods(n))), make([]byte, 1<<18)...))
		if s, e := segment.Get(b); !equal(s, api.Segment{}) || e != api.ErrForm {
			t.Errorf("Get of %d bytes: %+v, %d", len(b), s, e)
		}
	}
}

// Bytes of all ways: something is answered.
func TestGetOfAnyBytes(t *testing.T) {
	next := uint32(7)
	for long := range 120 {
		for range 60 {
			b := make([]byte, long)
			for i := range b {
				next = next*1664525 + 1013904223
				b[i] = byte(next >> 24)
			}
			segment.Get(b)
			segment.Get(seal(b))
			if len(b) > dataAt {
				b[0], b[1], b[flagsAt], b[optsAt], b[dataAt] = b[0]%5, b[1]%5, b[flagsAt]%17, b[optsAt]%6, b[dataAt]%10
				segment.Get(seal(b))
			}
		}
	}
}
