package outq_test

import (
	"testing"

	"ferrybridge/api"
	"ferrybridge/outq"
)

func TestExample(t *testing.T) {
	q := outq.New(5)
	syn := q.Push(api.Piece{Syn: true})
	q.Push(api.Piece{Data: []byte("abc")})
	if q.End() != 9 {
		t.Error(q.End())
	}
	if l, is := q.Ack(6); !is || !sameAll(l, []api.Piece{syn}) || syn.Seq != 5 {
		t.Error(l, is, syn)
	}
}

// P13.1, New

func TestNew(t *testing.T) {
	for _, seq := range seqs {
		b := newBoth(t, seq)
		b.holds(seq, seq)
		b.ack(seq + 1)
		b.ack(seq - 1)
		b.ack(seq + 1<<31)
		b.ack(seq)
		b.holds(seq, seq)
	}
}

// P13.1, Push

// A piece goes where the one ahead of it ends, whatever its own Seq was; all else of it stays as it is.
func TestPush(t *testing.T) {
	pushes := []struct{ given, want api.Piece }{
		{api.Piece{Seq: 77, Syn: true}, api.Piece{Seq: greatest - 1, Syn: true}},
		{api.Piece{Seq: 1, Data: []byte("abc"), Dsn: 9}, api.Piece{Seq: greatest, Data: []byte("abc"), Dsn: 9}},
		{api.Piece{Data: []byte("d"), Dsn: -1, Last: true}, api.Piece{Seq: 2, Data: []byte("d"), Dsn: -1, Last: true}},
		{api.Piece{Seq: 3, Fin: true}, api.Piece{Seq: 3, Fin: true}},
		{api.Piece{Seq: 4, Syn: true, Fin: true, Data: []byte("ef"), Dsn: 4, Last: true}, api.Piece{Seq: 4, Syn: true, Fin: true, Data: []byte("ef"), Dsn: 4, Last: true}},
		{api.Piece{Syn: true, Fin: true}, api.Piece{Seq: 8, Syn: true, Fin: true}},
		{api.Piece{Data: make([]byte, 300)}, api.Piece{Seq: 10, Data: make([]byte, 300)}},
	}
	b := newBoth(t, greatest-1)
	var l []api.Piece
	for i, p := range pushes {
		b.push(p.given)
		l = append(l, p.want)
		end := uint32(310)
		if i+1 < len(pushes) {
			end = pushes[i+1].want.Seq
		}
		b.holds(greatest-1, end, l...)
	}
}

// What Push answers is the piece as it is then, at its place.
func TestPushTells(t *testing.T) {
	q := outq.New(greatest)
	for _, c := range []struct{ given, want api.Piece }{
		{api.Piece{Seq: 9, Data: []byte("ab"), Dsn: 3, Last: true}, api.Piece{Seq: greatest, Data: []byte("ab"), Dsn: 3, Last: true}},
		{api.Piece{Seq: 9, Dsn: 7, Last: true}, api.Piece{Seq: 1, Dsn: 7, Last: true}},
		{api.Piece{Fin: true}, api.Piece{Seq: 1, Fin: true}},
		{api.Piece{Syn: true}, api.Piece{Seq: 2, Syn: true}},
	} {
		if got := q.Push(c.given); !same(got, c.want) {
			t.Errorf("Push(%v): %v, not %v", c.given, got, c.want)
		}
	}
}

// A piece without a length is told its place, and isn't kept.
func TestPushOfNothing(t *testing.T) {
	for _, seq := range seqs {
		nothing := []api.Piece{{}, {Seq: 4}, {Data: []byte{}}, {Dsn: 5}, {Last: true}, {Dsn: 5, Last: true, Data: make([]byte, 0, 8)}}
		b := newBoth(t, seq)
		for _, p := range nothing {
			b.push(p)
			b.holds(seq, seq)
		}
		fin := api.Piece{Seq: seq, Fin: true}
		b.push(fin)
		for _, p := range nothing {
			b.push(p)
			b.holds(seq, seq+1, fin)
		}
		b.ack(seq + 1)
		for _, p := range nothing {
			b.push(p)
			b.holds(seq+1, seq+1)
		}
	}
}

// P13.1, Ack

// written is a queue from 2^32 - 3 on: it ends at 7.
func written(t *testing.T) (both, []api.Piece) {
	l := []api.Piece{
		{Seq: greatest - 2, Syn: true},
		{Seq: greatest - 1, Data: []byte("abcd"), Dsn: 1},
		{Seq: 2, Data: []byte("e"), Dsn: 5},
		{Seq: 3, Data: []byte("fg"), Fin: true, Dsn: 6, Last: true},
		{Seq: 6, Fin: true},
	}
	return newBoth(t, greatest-2, l...), l
}

// Each number is acknowledged in a queue of its own: only pieces that end there, or ahead of it, go.
func TestAck(t *testing.T) {
	for _, c := range []struct {
		ack  uint32
		gone int
		is   bool
	}{
		{greatest - 4, 0, false}, {greatest - 3, 0, false}, {greatest - 2, 0, true}, {greatest - 1, 1, true}, {greatest, 1, true},
		{0, 1, true}, {1, 1, true}, {2, 2, true}, {3, 3, true}, {4, 3, true}, {5, 3, true}, {6, 4, true}, {7, 5, true},
		{8, 0, false}, {9, 0, false}, {1 << 31, 0, false}, {1<<31 - 2, 0, false}, {1<<31 + 6, 0, false}, {1<<31 + 7, 0, false},
	} {
		b, l := written(t)
		gone, is := b.x.Ack(c.ack)
		if !sameAll(gone, l[:c.gone]) || is != c.is {
			t.Errorf("Ack(%d): %v, %v, not %d, %v", c.ack, gone, is, c.gone, c.is)
		}
		b.p.ack(c.ack)
		begin := uint32(7)
		if c.gone < len(l) {
			begin = l[c.gone].Seq
		}
		b.holds(begin, 7, l[c.gone:]...)
	}
}

// All pairs of numbers about the queue, one acknowledged behind the other: what is behind the queue then may not be any more.
func TestAckTwice(t *testing.T) {
	for first := uint32(greatest - 5); first != 11; first++ {
		for second := uint32(greatest - 5); second != 11; second++ {
			b, _ := written(t)
			b.ack(first)
			b.ack(second)
			b.push(api.Piece{Data: []byte("xyz")})
			b.ack(second)
			b.ack(b.x.End())
			b.ack(second)
		}
	}
}

// An acknowledgement that may not be changes nothing: what may be does as it would without.
func TestAckThatMayNotBe(t *testing.T) {
	b, l := written(t)
	for _, ack := range []uint32{greatest - 3, 8, 1 << 31, 1<<31 + 2, 100, greatest - 100} {
		if gone, is := b.x.Ack(ack); len(gone) != 0 || is {
			t.Errorf("Ack(%d): %v, %v", ack, gone, is)
		}
		b.holds(greatest-2, 7, l...)
	}
	b.ack(3)
	b.holds(3, 7, l[3:]...)
}

// A queue that is emptied goes on where it ended.
func TestAckOfAll(t *testing.T) {
	b, _ := written(t)
	b.ack(7)
	b.holds(7, 7)
	b.ack(7)
	b.ack(6)
	b.ack(8)
	b.push(api.Piece{Data: []byte("h")})
	b.holds(7, 8, api.Piece{Seq: 7, Data: []byte("h")})
	b.ack(8)
	b.holds(8, 8)
}

// All that a queue may be from any beginning on: some pieces, and each number about it.
func TestAckEverywhere(t *testing.T) {
	for _, seq := range seqs {
		for _, ahead := range []uint32{0, 1, 3} {
			for n := range uint32(14) {
				b := newBoth(t, seq, api.Piece{Syn: true}, api.Piece{Data: []byte("ab")}, api.Piece{Data: []byte("c"), Fin: true}, api.Piece{Data: []byte("defg")})
				b.ack(seq + ahead)
				b.ack(seq - 2 + n)
			}
		}
	}
}

// Long pieces, and queues of many bytes, go by the same rule.
func TestLong(t *testing.T) {
	data := make([]byte, 1<<20)
	for _, seq := range []uint32{0, 1 << 31, greatest - 1<<20} {
		q, end := outq.New(seq), seq
		for range 40 {
			q.Push(api.Piece{Data: data})
			end += 1 << 20
		}
		if q.End() != end || q.Begin() != seq || q.Len() != 40 {
			t.Error(q.Begin(), q.End(), q.Len())
		}
		if l, is := q.Ack(end - 1); len(l) != 39 || !is || q.Begin() != end-1<<20 {
			t.Error(len(l), is)
		}
		if l, is := q.Ack(end + 1); len(l) != 0 || is {
			t.Error(len(l), is)
		}
		if l, is := q.Ack(end); len(l) != 1 || !is || q.Len() != 0 {
			t.Error(len(l), is)
		}
	}
}

// Many pieces, acknowledged one by one.
func TestMany(t *testing.T) {
	const many = 50000
	q := outq.New(greatest)
	for range many {
		q.Push(api.Piece{Fin: true})
	}
	for i := range uint32(many) {
		if l, is := q.Ack(i); len(l) != 1 || l[0].Seq != i-1 || !is {
			t.Fatal(i, l, is)
		}
	}
	if q.Len() != 0 || q.Begin() != many-1 {
		t.Error(q.Len(), q.Begin())
	}
}

// P13.1, P13.2

func TestAllSorts(t *testing.T) {
	d := dice(13)
	for i := range 200 {
		b := newBoth(t, seqs[i%len(seqs)])
		for range 100 {
			b.something(&d)
		}
	}
}

// P13.2, R1, a queue that is nil

func TestNil(t *testing.T) {
	var q *outq.Queue
	for _, p := range []api.Piece{{}, {Seq: 7}, {Seq: 9, Syn: true, Fin: true, Data: []byte("abc"), Dsn: 3, Last: true}, {Data: []byte{}}} {
		if got := q.Push(p); !same(got, p) {
			t.Errorf("Push(%v): %v", p, got)
		}
	}
	for _, ack := range append(seqs, 2, 7) {
		if l, is := q.Ack(ack); len(l) != 0 || is {
			t.Errorf("Ack(%d): %v, %v", ack, l, is)
		}
	}
	if l := q.All(); len(l) != 0 {
		t.Error(l)
	}
	if q.Begin() != 0 || q.End() != 0 || q.Len() != 0 {
		t.Error(q.Begin(), q.End(), q.Len())
	}
}
