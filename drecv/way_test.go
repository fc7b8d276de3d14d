package drecv_test

import (
	"bytes"
	"testing"

	"ferrybridge/api"
	"ferrybridge/drecv"
	"ferrybridge/dsend"
)

// packet is data on their way, or their end.
type packet struct {
	dsn  int
	data []byte
	end  bool
}

// way is a sender's, and a receiver's, between which packets are lost, doubled, and turned about.
type way struct {
	d       dice
	lose    int
	s       *dsend.Send
	r       *drecv.Recv
	packets []packet
	read    []byte
	closed  bool
}

// comes tells whether something isn't lost.
func (w *way) comes() bool { return w.d.below(100) >= w.lose }

// send puts what is to be sent on the way.
func (w *way) send() {
	if dsn, b := w.s.Take(w.d.below(10)); len(b) > 0 {
		w.packets = append(w.packets, packet{dsn, b, false})
	}
	if n, is := w.s.Due(); is {
		w.packets = append(w.packets, packet{n, nil, true})
	}
}

// hear hands one packet of those on the way to the receiver, which stays there now and then.
func (w *way) hear() {
	if len(w.packets) == 0 {
		return
	}
	i := w.d.below(len(w.packets))
	p := w.packets[i]
	if !w.d.one(5) {
		w.packets = append(w.packets[:i], w.packets[i+1:]...)
	}
	switch {
	case !w.comes():
	case p.end:
		w.r.End(p.dsn)
	default:
		w.r.Put(p.dsn, p.data)
	}
}

// take reads, and tells the sender what came.
func (w *way) take(t *testing.T, data []byte) {
	b, e := w.r.Read(w.d.below(12))
	w.read = append(w.read, b...)
	w.closed = e == api.ErrClosed
	if !bytes.HasPrefix(data, w.read) || w.closed && len(w.read) < len(data) {
		t.Fatalf("read %d of %d, error %d: not a beginning", len(w.read), len(data), e)
	}
	if w.comes() {
		if _, is := w.s.Ack(w.r.Ack(), w.r.Win()); !is {
			t.Fatalf("Ack(%d, %d) was refused: Una %d, Next %d", w.r.Ack(), w.r.Win(), w.s.Una(), w.s.Next())
		}
	}
	if w.r.Ack()+w.r.Win() < w.s.Edge() {
		t.Fatalf("%d, which may be sent, may not come", w.s.Edge()-1)
	}
	if w.d.one(4) {
		w.s.Lost(w.s.Una()+w.d.below(20), 1+w.d.below(9))
	}
}

// What is read is a beginning of what was written, whatever the way does; all is at last, and then its end is told, and not ahead of that.
func TestAllIsRead(t *testing.T) {
	for seed := range 300 {
		w := way{d: dice(seed), lose: []int{0, 5, 30, 60}[seed%4], s: dsend.New(), r: drecv.New()}
		data := w.d.bytes(w.d.below(600))
		left := data
		for n := 0; n < 20000 && !(w.closed && w.s.Done()); n++ {
			m, _ := w.s.Write(left[:w.d.below(min(len(left), 90)+1)])
			if left = left[m:]; len(left) == 0 {
				w.s.End()
			}
			w.send()
			w.hear()
			w.hear()
			w.take(t, data)
		}
		if !w.closed || !w.s.Done() || len(w.read) != len(data) || w.r.Ack() != len(data)+2 {
			t.Errorf("%d: read %d of %d, Ack %d, closed %v, Done %v", seed, len(w.read), len(data), w.r.Ack(), w.closed, w.s.Done())
		}
	}
}

// Data's numbers may be many, and go on as long as they do.
func TestMany(t *testing.T) {
	const many = 200000
	r, d := drecv.New(), dice(3)
	for n := 0; n < many; n += 32 {
		want := d.bytes(32)
		if m := r.Put(n+17, want[16:]); m != 16 || r.Ready() != 0 || r.Ack() != n+1 {
			t.Fatal(n, m, r.Ready(), r.Ack())
		}
		if m := r.Put(n-7, append(make([]byte, 8), want...)); m != 16 || r.Ready() != 32 || r.Win() != 0 {
			t.Fatal(n, m, r.Ready(), r.Win())
		}
		if b, e := r.Read(32); !bytes.Equal(b, want) || e != api.OK {
			t.Fatal(n, b, e)
		}
	}
	if r.Ack() != many+1 || r.Win() != 32 || !r.End(many+1) || r.Ack() != many+2 {
		t.Error(r.Ack(), r.Win())
	}
}
