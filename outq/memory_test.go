package outq_test

import (
	"bytes"
	"fmt"
	"slices"
	"testing"

	"ferrybridge/api"
	"ferrybridge/outq"
)

// scribble writes over all of b, spare room included.
func scribble(b []byte) {
	b = b[:cap(b)]
	for i := range b {
		b[i] = '!'
	}
}

// scribbleAll writes over all pieces of l, and over their bytes, spare room included.
func scribbleAll(l []api.Piece) {
	l = l[:cap(l)]
	for i := range l {
		scribble(l[i].Data)
		l[i] = api.Piece{Seq: 99, Syn: true, Fin: true, Data: []byte("over"), Dsn: 99, Last: true}
	}
}

// deep is l with bytes of its own.
func deep(l []api.Piece) []api.Piece {
	l = slices.Clone(l)
	for i := range l {
		l[i].Data = bytes.Clone(l[i].Data)
	}
	return l
}

// R4, what is handed in

func TestGivenIsNotChanged(t *testing.T) {
	whole := []byte("abcdefgh")
	for n := range len(whole) + 1 {
		for _, q := range []*outq.Queue{outq.New(3), nil} {
			p := api.Piece{Seq: 8, Data: whole[:n], Fin: true}
			scribble(q.Push(p).Data)
			scribbleAll(q.All())
			q.Push(api.Piece{Data: []byte("xyz")})
			l, _ := q.Ack(q.End())
			scribbleAll(l)
			if string(whole) != "abcdefgh" || p.Seq != 8 {
				t.Errorf("%d: it became %q, %v", n, whole, p)
			}
		}
	}
}

// What was pushed may change: a queue keeps nothing of it.
func TestGivenIsNotKept(t *testing.T) {
	b := newBoth(t, greatest-2)
	for n := range 9 {
		given := append(make([]byte, 0, 12), "abcdefghi"[:n]...)
		b.push(api.Piece{Data: given, Dsn: n})
		scribble(given)
		b.look()
	}
	b.ack(b.x.End() - 4)
	b.ack(b.x.End())
}

// R4, what is answered

// A queue goes on as it would if its answers are written over, and what comes behind them reaches none of them.
func TestAnswerIsNewMemory(t *testing.T) {
	for many := range 12 {
		b, want := newBoth(t, greatest), newBoth(t, greatest)
		var told [][]api.Piece
		var was [][]api.Piece
		keep := func(l []api.Piece) {
			told, was = append(told, l), append(was, deep(l[:cap(l)]))
		}
		for n := range many {
			p := api.Piece{Data: []byte("abcdefgh"[:n%9]), Syn: n%3 == 0, Dsn: n}
			keep([]api.Piece{b.x.Push(p)})
			b.p.push(p)
			want.push(p)
			keep(b.x.All())
		}
		for _, n := range []int{many / 3, 2 * many / 3, many} {
			ack := b.x.End()
			if l := b.x.All(); n < len(l) {
				ack = l[n].Seq
			}
			gone, _ := b.x.Ack(ack)
			keep(gone)
			b.p.ack(ack)
			want.ack(ack)
			b.push(api.Piece{Data: []byte("pqr")})
			want.push(api.Piece{Data: []byte("pqr")})
			keep(b.x.All())
		}
		for i, l := range told {
			if !sameAll(l[:cap(l)], was[i]) {
				t.Errorf("%d: %v became %v", many, was[i], l)
			}
			scribbleAll(l)
			b.look()
			for j := i + 1; j < len(told); j++ {
				if !sameAll(told[j][:cap(told[j])], was[j]) {
					t.Fatalf("%d: the answer %d shares memory with the answer %d", many, i, j)
				}
			}
		}
		for b.x.Len() > 0 {
			end := b.x.Begin() + 3
			scribbleAll(b.x.All())
			b.ack(end)
			want.ack(end)
			if !sameAll(b.x.All(), want.x.All()) {
				t.Errorf("%d: %v, not %v", many, b.x.All(), want.x.All())
			}
			if b.x.Begin() != end {
				b.ack(b.x.End())
			}
		}
	}
}

// No two pieces of an answer share any.
func TestPiecesOfAnAnswerAreApart(t *testing.T) {
	q := outq.New(0)
	for range 6 {
		q.Push(api.Piece{Data: []byte("ab")})
	}
	all := q.All()
	gone, _ := q.Ack(q.End())
	for _, l := range [][]api.Piece{all, gone} {
		for i := range l {
			scribble(l[i].Data)
			for _, p := range l[i+1:] {
				if string(p.Data) != "ab" {
					t.Errorf("%d reaches %v", i, p)
				}
			}
		}
	}
}

// One queue changes nothing of another one's, also if it is a queue of the other one's pieces.
func TestQueuesAreApart(t *testing.T) {
	one := newBoth(t, 5, api.Piece{Syn: true}, api.Piece{Data: []byte("abc")}, api.Piece{Fin: true})
	other := newBoth(t, 5, one.x.All()...)
	d := dice(4)
	for range 300 {
		one.something(&d)
		other.look()
		other.something(&d)
		one.look()
	}
}

// R5

// log is what a queue answers to calls that the dice tell.
func log(seed int, between func()) string {
	d, q, said := dice(seed), outq.New(greatest-9), ""
	for range 150 {
		if d.below(2) == 0 {
			said += fmt.Sprintln(q.Push(d.piece()))
		} else {
			l, is := q.Ack(q.Begin() + uint32(d.below(9)) - 1)
			said += fmt.Sprintln(l, is)
		}
		between()
		said += fmt.Sprintln(q.All(), q.Begin(), q.End(), q.Len())
	}
	return said
}

// The same calls have the same answers, whatever else is asked between.
func TestSameCallsSameAnswers(t *testing.T) {
	for seed := range 20 {
		first := log(seed, func() {})
		b, d := newBoth(t, 0), dice(seed+1)
		if again := log(seed, func() { b.something(&d) }); first != again {
			t.Errorf("%d: other answers", seed)
		}
	}
}
