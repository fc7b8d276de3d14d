package drecv_test

import (
	"bytes"
	"fmt"
	"runtime"
	"testing"

	"ferrybridge/drecv"
)

// scribble writes over all of b, spare room included.
func scribble(b []byte) {
	b = b[:cap(b)]
	for i := range b {
		b[i] = '!'
	}
}

// R4, what is handed in

func TestGivenIsNotChanged(t *testing.T) {
	for n := range 40 {
		whole := []byte(letters)
		for _, r := range []*drecv.Recv{drecv.New(), nil} {
			r.Put(3, whole[:n])
			r.Put(1, whole[n:n+5])
			b, _ := r.Read(4)
			scribble(b)
			r.Put(1, whole)
			b, _ = r.Read(99)
			scribble(b)
			r.Put(1, whole)
			if string(whole) != letters {
				t.Errorf("%d: it became %q", n, whole)
			}
		}
	}
}

// What was put may change, whether it is next or ahead: a receiver keeps nothing of it.
func TestGivenIsNotKept(t *testing.T) {
	for n := range 20 {
		b := newBoth(t)
		for _, dsn := range []int{4, 1, 9, 12, 7, 2} {
			given := append(make([]byte, 0, 64), letters[:n]...)
			b.put(dsn, given)
			scribble(given)
			b.read(2)
		}
		b.rest()
	}
}

// R4, what is answered

// A receiver goes on as it would if its answers are written over, and what comes behind them reaches none of them.
func TestAnswerIsNewMemory(t *testing.T) {
	for seed := range 200 {
		d, b := dice(seed), newBoth(t)
		var told, was [][]byte
		for range 60 {
			data, _ := b.x.Read(seed % 9)
			b.p.take(seed % 9)
			told, was = append(told, data), append(was, bytes.Clone(data[:cap(data)]))
			b.something(&d)
		}
		for i, data := range told {
			if !bytes.Equal(data[:cap(data)], was[i]) {
				t.Fatalf("%d: %q became %q", seed, was[i], data)
			}
		}
		for i, data := range told {
			scribble(data)
			for j := i + 1; j < len(told); j++ {
				if !bytes.Equal(told[j][:cap(told[j])], was[j]) {
					t.Fatalf("%d: the answer %d shares memory with the answer %d", seed, i, j)
				}
			}
		}
		b.rest()
	}
}

// An answer's spare room has nothing of what a receiver has.
func TestAnswerHasNoMore(t *testing.T) {
	for many := 1; many < 33; many++ {
		for most := range many + 1 {
			b := came(t, many, 0)
			data, _ := b.x.Read(most)
			b.p.take(most)
			for i, c := range data[len(data):cap(data)] {
				if c != 0 {
					t.Fatalf("%d of %d: %q at %d of the spare room", most, many, c, i)
				}
			}
			scribble(data)
			b.rest()
		}
	}
}

// One receiver changes nothing of another one's, also if it is put what the other one told.
func TestReceiversAreApart(t *testing.T) {
	d, one, other := dice(7), newBoth(t), newBoth(t)
	for range 1500 {
		one.something(&d)
		other.look()
		data, _ := one.x.Read(8)
		one.p.take(8)
		other.put(other.p.next()+d.below(3), data)
		other.something(&d)
		one.look()
	}
	one.rest()
	other.rest()
}

// heap is how many bytes are in use.
func heap() int {
	runtime.GC()
	var m runtime.MemStats
	runtime.ReadMemStats(&m)
	return int(m.HeapAlloc)
}

// What was read is kept no longer.
func TestReadIsNotKept(t *testing.T) {
	r, data := drecv.New(), make([]byte, 32)
	before := heap()
	for n := 0; n < 400000; n += 32 {
		r.Put(n+17, data[16:])
		r.Put(n+1, data)
		r.Read(32)
	}
	if more := heap() - before; more > 1<<20 {
		t.Errorf("%d bytes more are in use", more)
	}
	runtime.KeepAlive(r)
}

// R5

// log is what a receiver answers to calls that the dice tell.
func log(seed int, between func()) string {
	d, r, said := dice(seed), drecv.New(), ""
	for range 150 {
		switch n := d.below(64); d.below(4) {
		case 0, 1:
			said += fmt.Sprintln(r.Put(r.Ack()-2+n/4, d.bytes(d.below(9))))
		case 2:
			b, e := r.Read(n / 4)
			said += fmt.Sprintln(b, int(e))
		default:
			if n == 0 {
				said += fmt.Sprintln(r.End(r.Ack() + d.below(20)))
			}
		}
		between()
		said += fmt.Sprintln(r.Ack(), r.Win(), r.Ready(), r.Ended())
	}
	return said
}

// The same calls have the same answers, whatever else is asked between.
func TestSameCallsSameAnswers(t *testing.T) {
	for seed := range 40 {
		first := log(seed, func() {})
		b, d := newBoth(t), dice(seed+1)
		if again := log(seed, func() { b.something(&d) }); first != again {
			t.Errorf("%d: other answers", seed)
		}
	}
}

// What is asked, and what is refused, changes nothing.
func TestAskingChangesNothing(t *testing.T) {
	b := came(t, 10, 4)
	b.puts(13, "mn", 2)
	b.ends(20, true)
	for range 4 {
		b.is(11, 26, 6, false)
		b.puts(1, letters[:10], 0)
		b.puts(13, "xy", 0)
		b.puts(20, "x", 0)
		b.puts(40, "x", 0)
		b.puts(11, "", 0)
		b.ends(19, false)
		b.ends(21, false)
		b.ends(20, true)
		b.reads(0, "", 0)
		b.reads(-7, "", 0)
	}
	b.puts(11, "kl", 2)
	b.reads(99, letters[4:14], 0)
}
