package net_test

import (
	"bytes"
	"fmt"
	"slices"
	"strings"
	"testing"

	"ferrybridge/api"
	"ferrybridge/net"
	"ferrybridge/segment"
)

// scribble writes over all of b, spare room included.
func scribble(b []byte) {
	b = b[:cap(b)]
	for i := range b {
		b[i] ^= 0xff
	}
}

// scribbleAll writes over all packets of l, and over their bytes, spare room included.
func scribbleAll(l []net.Packet) {
	l = l[:cap(l)]
	for i := range l {
		scribble(l[i].B)
		l[i] = net.Packet{To: 9, B: []byte("over")}
	}
}

// scribbleSegments writes over all of l, and over what they have, spare room included.
func scribbleSegments(l []api.Segment) {
	l = l[:cap(l)]
	for i := range l {
		scribble(l[i].Data)
		opts := l[i].Opts[:cap(l[i].Opts)]
		for j := range opts {
			opts[j] = api.Option{Kind: api.Reset, Reason: 77}
		}
		l[i] = api.Segment{Seq: 0xeeeeeeee, Rst: true}
	}
}

// roomy is l, with spare room behind each list, in which something stands.
func roomy(l []api.Segment) []api.Segment {
	all := append(slices.Clone(l), api.Segment{Seq: 123, Data: []byte("spare")}, api.Segment{Src: 7})
	for i, s := range all {
		all[i].Opts = append(slices.Clone(s.Opts), options[2], api.Option{Kind: 99})[:len(s.Opts)]
		all[i].Data = append(bytes.Clone(s.Data), "spare room"...)[:len(s.Data)]
	}
	return all[:len(l)]
}

// image tells all that stands in l, spare room included.
func image(l []api.Segment) string {
	said := ""
	for _, s := range l[:cap(l)] {
		said += fmt.Sprintln(s, s.Opts[:cap(s.Opts)], s.Data[:cap(s.Data)])
	}
	return said
}

// imageOf tells all that stands in an answer, spare room included.
func imageOf(l []net.Packet) string {
	said := ""
	for _, p := range l[:cap(l)] {
		said += fmt.Sprintln(p.To, p.B, p.B[:cap(p.B)])
	}
	return said
}

// lists are what is sent: ordinary ones, wrong ones among them, and more than there is room.
func lists() [][]api.Segment {
	d := dice(4)
	l := [][]api.Segment{nil, numbered(1), samples(), wrongs(), append(wrongs(), samples()...), numbered(room + 3)}
	for range 10 {
		l = append(l, d.segments())
	}
	return l
}

// R4, what is handed in

func TestGivenIsNotChanged(t *testing.T) {
	var none *net.Net
	for i, l := range lists() {
		given := roomy(l)
		was := image(given)
		for _, n := range []*net.Net{net.New(), none} {
			for _, to := range []int{0, 1, 2, -1} {
				n.Send(to, given...)
			}
			for j := range 4 {
				n.Spoil(j, 7, 99)
			}
			scribbleAll(n.All())
			p, _ := n.Take(0)
			scribble(p.B)
			n.Send(1, given...)
			n.Clear()
			if image(given) != was {
				t.Errorf("%d: %s became %s", i, was, image(given))
			}
		}
	}
}

// What was sent may change: the net keeps nothing of it.
func TestGivenIsNotKept(t *testing.T) {
	for _, l := range lists() {
		b := newBoth(t)
		for to := range 2 {
			given := roomy(l)
			b.send(to, given...)
			scribbleSegments(given)
			b.look()
		}
		for range len(b.p.l) {
			b.take(0)
		}
	}
}

// The same segment sent twice makes two packets, of which each one is spoilt alone.
func TestPacketsAreApart(t *testing.T) {
	s := numbered(1)[0]
	b := newBoth(t, s, s, s)
	b.send(0, s)
	b.spoil(1, 3, 9)
	b.spoil(3, 3, 8)
	b.take(0)
	b.spoil(1, 3, 7)
	b.take(0)
	b.take(1)
	b.take(0)
}

// R4, what is answered

// answers are all lists that a net tells now, one by one.
func answers(x *net.Net) [][]net.Packet {
	l := [][]net.Packet{x.All(), x.All()}
	for i := range x.Len() {
		p, _ := x.Copy(i)
		l = append(l, []net.Packet{p})
	}
	return l
}

// It goes on as it would if its answers are written over, and what comes behind them reaches none of them.
func TestAnswerIsNewMemory(t *testing.T) {
	for seed := range 30 {
		d := dice(seed)
		b := newBoth(t)
		var kept [][]net.Packet
		for range 25 {
			b.something(&d)
			if d.below(2) == 0 && b.x.Len() > 0 {
				i := d.below(b.x.Len())
				p, _ := b.x.Take(i)
				b.p.take(i)
				kept = append(kept, []net.Packet{p})
			}
			kept = append(kept, answers(b.x)...)
		}
		var was []string
		for _, l := range kept {
			was = append(was, imageOf(l))
		}
		for range 25 {
			b.something(&d)
		}
		for i, l := range kept {
			if imageOf(l) != was[i] {
				t.Fatalf("%d: %s became %s", seed, was[i], imageOf(l))
			}
			scribbleAll(l)
			b.look()
		}
		b.rest(&d)
	}
}

// No two answers share any, nor two packets of one answer: each byte is written over alone.
func TestAnswersAreApart(t *testing.T) {
	b := newBoth(t, samples()...)
	var taken []net.Packet
	for range 5 {
		p, _ := b.x.Take(3)
		b.p.take(3)
		taken = append(taken, p)
	}
	var all []net.Packet
	for _, l := range append(answers(b.x), taken) {
		all = append(all, l...)
	}
	var was []sent
	for _, p := range all {
		was = append(was, told(p))
	}
	for i, p := range all {
		scribble(p.B)
		for j, other := range all[i+1:] {
			if told(other) != was[i+1+j] {
				t.Fatalf("the packet %d of the answers reaches the packet %d", i, i+1+j)
			}
		}
	}
	b.look()
}

// Written over while it goes on, answer by answer.
func TestAnswerIsNotKept(t *testing.T) {
	for seed := range 30 {
		d := dice(seed)
		b := newBoth(t)
		for range 100 {
			b.something(&d)
			for _, l := range answers(b.x) {
				scribbleAll(l)
			}
			if d.below(4) == 0 && b.x.Len() > 0 {
				i := d.below(b.x.Len())
				p, _ := b.x.Take(i)
				b.p.take(i)
				scribble(p.B)
			}
			b.look()
		}
	}
}

// A packet that was taken is another's for good: its bytes may be sent on, and changed.
func TestTakenIsGone(t *testing.T) {
	b := newBoth(t, numbered(4)...)
	p, _ := b.x.Take(3)
	b.p.take(3)
	was := told(p)
	b.send(0, numbered(6)...)
	b.spoil(3, 0, 1)
	if told(p) != was {
		t.Errorf("%v became %v", was, p)
	}
	scribble(p.B)
	b.look()
	b.clear()
	if s, e := segment.Get(p.B); e == api.OK {
		t.Error(s)
	}
}

// An answer's spare room has nothing.
func TestAnswerHasNoMore(t *testing.T) {
	b := newBoth(t, numbered(9)...)
	b.take(4)
	p, _ := b.x.Take(7)
	for _, l := range append(answers(b.x), []net.Packet{p}) {
		for _, p := range l[len(l):cap(l)] {
			if p.To != 0 || p.B != nil {
				t.Errorf("behind %v is %v", l, p)
			}
		}
		for _, p := range l {
			if bytes.ContainsFunc(p.B[len(p.B):cap(p.B)], func(r rune) bool { return r != 0 }) {
				t.Errorf("behind %v is %v", p.B, p.B[len(p.B):cap(p.B)])
			}
		}
	}
}

// One net changes nothing of another one.
func TestNetsAreApart(t *testing.T) {
	d, one, other := dice(7), newBoth(t), newBoth(t)
	for range 500 {
		one.something(&d)
		other.look()
		other.something(&d)
		one.look()
	}
}

// R2

// refused are calls that answer errors, or of which nothing goes.
func refused(x *net.Net) {
	for _, i := range noPlaces(x.Len()) {
		x.Take(i)
		x.Copy(i)
		x.Spoil(i, 0, 1)
	}
	for i := range x.Len() {
		x.Spoil(i, -1, 1)
		x.Spoil(i, 1<<20, 1)
		x.Spoil(i, 0, 0)
		x.Spoil(i, 0, 256)
	}
	x.Send(0, wrongs()...)
	x.Send(2, numbered(3)...)
	x.Send(-1, numbered(3)...)
	x.Send(0)
}

// R5

// log is what a net answers to calls that the dice tell.
func log(seed int, between func(*net.Net)) string {
	var said strings.Builder
	d, x := dice(seed), net.New()
	for range 120 {
		switch i := d.near(x.Len()); d.below(8) {
		case 0, 1, 2:
			fmt.Fprintln(&said, x.Send(d.near(2), d.segments()...))
		case 3, 4:
			p, e := x.Take(i)
			fmt.Fprintln(&said, p, int(e))
		case 5:
			p, e := x.Copy(i)
			fmt.Fprintln(&said, p, int(e))
		default:
			fmt.Fprintln(&said, int(x.Spoil(i, d.near(30), 1+d.near(255))))
		}
		between(x)
		fmt.Fprintln(&said, x.All(), x.Len())
	}
	x.Clear()
	fmt.Fprintln(&said, x.All(), x.Len(), x.Send(0, d.segments()...))
	fmt.Fprintln(&said, x.All(), x.Len())
	return said.String()
}

// The same calls have the same answers, whatever else is asked, or refused, between.
func TestSameCallsSameAnswers(t *testing.T) {
	for seed := range 12 {
		first := log(seed, func(*net.Net) {})
		b, d := newBoth(t), dice(seed+1)
		for name, between := range map[string]func(*net.Net){
			"another net's calls": func(*net.Net) { b.something(&d) },
			"asking":              func(x *net.Net) { answers(x) },
			"what is refused":     refused,
		} {
			if again := log(seed, between); first != again {
				t.Errorf("%d: other answers with %s between", seed, name)
			}
		}
	}
}
