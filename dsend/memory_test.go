package dsend_test

import (
	"bytes"
	"fmt"
	"testing"

	"ferrybridge/dsend"
)

// scribble writes over all of b, spare room included.
func scribble(b []byte) {
	b = b[:cap(b)]
	for i := range b {
		b[i] = '!'
	}
}

// R4, what is handed in

func TestGivenIsNotChanged(t *testing.T) {
	for n := range len(letters) + 1 {
		whole := []byte(letters)
		for _, s := range []*dsend.Send{dsend.New(), nil} {
			s.Write(whole[:n])
			s.Write([]byte("xyz"))
			_, data := s.Take(8)
			scribble(data)
			s.Lost(1, 8)
			_, data = s.Take(3)
			scribble(data)
			s.Ack(4, 60)
			s.Write([]byte("xyz"))
			s.End()
			if string(whole) != letters {
				t.Errorf("%d: it became %q", n, whole)
			}
		}
	}
}

// What was written may change: a sender keeps nothing of it.
func TestGivenIsNotKept(t *testing.T) {
	for n := range 30 {
		b := newBoth(t)
		for range 3 {
			given := append(make([]byte, 0, 64), letters[:n]...)
			b.write(given)
			scribble(given)
			b.take(5)
			b.ack(b.p.una()+min(2, b.p.next()-b.p.una()), 64)
		}
		b.rest()
		b.lose(1, 100)
		b.rest()
	}
}

// R4, what is answered

// A sender goes on as it would if its answers are written over, and what comes behind them reaches none of them.
func TestAnswerIsNewMemory(t *testing.T) {
	for seed := range 200 {
		d, b := dice(seed), newBoth(t)
		var told, was [][]byte
		for range 60 {
			_, data := b.x.Take(1 + seed%8)
			b.p.take(1 + seed%8)
			told, was = append(told, data), append(was, bytes.Clone(data[:cap(data)]))
			b.something(&d)
		}
		for i, data := range told {
			if !bytes.Equal(data[:cap(data)], was[i]) {
				t.Fatalf("%d: %q became %q", seed, was[i], data)
			}
		}
		for i, data := range told {
			scribble(data)
			for j := i + 1; j < len(told); j++ {
				if !bytes.Equal(told[j][:cap(told[j])], was[j]) {
					t.Fatalf("%d: the answer %d shares memory with the answer %d", seed, i, j)
				}
			}
		}
		b.lose(1, 1<<20)
		b.rest()
	}
}

// One sender changes nothing of another one's, also if it was written what the other one told.
func TestSendersAreApart(t *testing.T) {
	d, one, other := dice(7), newBoth(t), newBoth(t)
	for range 1500 {
		one.something(&d)
		other.look()
		_, data := one.x.Take(8)
		one.p.take(8)
		other.write(data)
		other.something(&d)
		one.look()
	}
	for _, b := range []both{one, other} {
		b.lose(1, 1<<20)
		b.rest()
	}
}

// R5

// log is what a sender answers to calls that the dice tell.
func log(seed int, between func()) string {
	d, s, said := dice(seed), dsend.New(), ""
	for range 150 {
		switch n := d.below(64); d.below(5) {
		case 0:
			m, e := s.Write(d.bytes(n))
			said += fmt.Sprintln(m, int(e))
		case 1:
			dsn, data := s.Take(n)
			said += fmt.Sprintln(dsn, data)
		case 2:
			said += fmt.Sprintln(s.Lost(s.Una()+n/4, d.below(9)))
		case 3:
			m, is := s.Ack(s.Una()+n/8, n)
			said += fmt.Sprintln(m, is)
		default:
			if n == 0 {
				said += fmt.Sprintln(int(s.End()))
			}
		}
		between()
		due, is := s.Due()
		said += fmt.Sprintln(due, is, s.Una(), s.Next(), s.Edge(), s.Held(), s.Done())
	}
	return said
}

// The same calls have the same answers, whatever else is asked between.
func TestSameCallsSameAnswers(t *testing.T) {
	for seed := range 40 {
		first := log(seed, func() {})
		b, d := newBoth(t), dice(seed+1)
		if again := log(seed, func() { b.something(&d) }); first != again {
			t.Errorf("%d: other answers", seed)
		}
	}
}

// What is asked, and what is refused, changes nothing.
func TestAskingChangesNothing(t *testing.T) {
	b := sent(t, 20)
	b.lost(3, 2, 2)
	b.acked(2, 32, 1, true)
	for range 4 {
		b.is(2, 21, 34, 19, 0, false, false)
		b.lost(3, 2, 0)
		b.lost(1, 1, 0)
		b.lost(21, 9, 0)
		b.acked(1, 40, 0, false)
		b.acked(22, 40, 0, false)
		b.acked(2, -1, 0, false)
		b.acked(2, 32, 0, true)
		b.wrote("", 0, 0)
	}
	b.took(8, 3, "cd")
	b.took(8, 0, "")
}
