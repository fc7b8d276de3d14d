package dsend_test

import (
	"bytes"
	"testing"

	"ferrybridge/dsend"
)

// reader is the other side: what came, by its number, what of it is in order, and the end's number, when that came.
type reader struct {
	came map[int]byte
	read []byte
	end  int
}

func (r *reader) put(dsn int, data []byte) {
	for i, c := range data {
		r.came[dsn+i] = c
	}
	for next := len(r.read) + 1; ; next++ {
		c, is := r.came[next]
		if !is {
			return
		}
		r.read = append(r.read, c)
	}
}

// ack is the first number that didn't come, or one behind the end's.
func (r *reader) ack() int {
	if next := len(r.read) + 1; next != r.end {
		return next
	}
	return r.end + 1
}

// carry writes data to a sender, whose data, and end, are lost as often as told; what is lost is told to it by and by. It answers what came.
func carry(t *testing.T, seed, lose int, data []byte) *reader {
	d, s, r := dice(seed), dsend.New(), &reader{came: map[int]byte{}}
	left := data
	for range 20000 {
		n, _ := s.Write(left[:d.below(min(len(left), 90)+1)])
		if left = left[n:]; len(left) == 0 {
			s.End()
		}
		if dsn, b := s.Take(d.below(10)); len(b) > 0 && d.below(100) >= lose {
			r.put(dsn, b)
		}
		if n, is := s.Due(); is && d.below(100) >= lose {
			r.end = n
		}
		if d.below(100) >= lose {
			s.Ack(r.ack(), d.below(40))
		}
		if d.one(4) {
			s.Lost(s.Una()+d.below(20), 1+d.below(9))
		}
		if s.Next() > s.Edge() || s.Held() > 64 || s.Una() > s.Next() {
			t.Fatalf("%d: Una %d, Next %d, Edge %d, Held %d", seed, s.Una(), s.Next(), s.Edge(), s.Held())
		}
		if s.Done() {
			break
		}
	}
	if !s.Done() || s.Held() != 0 || s.Una() != len(data)+1 {
		t.Errorf("%d: Una %d, Held %d, Done %v", seed, s.Una(), s.Held(), s.Done())
	}
	return r
}

// Whatever is lost on the way, all comes under its own number, and the end behind it, if what is lost is told.
func TestAllComes(t *testing.T) {
	for seed := range 300 {
		d := dice(seed)
		data := d.bytes(d.below(600))
		r := carry(t, seed, []int{0, 5, 30, 60}[seed%4], data)
		if !bytes.Equal(r.read, data) || r.end != len(data)+1 || len(r.came) != len(data) {
			t.Errorf("%d: %d came of %d, the end is %d", seed, len(r.read), len(data), r.end)
		}
	}
}

// Data's numbers may be many, and go on as long as they do.
func TestMany(t *testing.T) {
	const many = 200000
	s, data := dsend.New(), dice(3)
	for n := 0; n < many; n += 32 {
		want := data.bytes(32)
		if m, _ := s.Write(want); m != 32 {
			t.Fatal(n, m)
		}
		s.Take(8)
		s.Lost(n+1, 8)
		for i := 0; i < 32; i += 8 {
			if dsn, b := s.Take(8); dsn != n+1+i || !bytes.Equal(b, want[i:i+8]) {
				t.Fatal(n, dsn, b)
			}
		}
		if m, is := s.Ack(n+33, 32); m != 32 || !is {
			t.Fatal(n, m, is)
		}
	}
	if s.Una() != many+1 || s.Next() != many+1 || s.Edge() != many+33 || s.Held() != 0 {
		t.Error(s.Una(), s.Next(), s.Edge(), s.Held())
	}
}
