package flow_test

import (
	"bytes"
	"fmt"
	"reflect"
	"slices"
	"testing"

	"ferrybridge/api"
	"ferrybridge/flow"
)

// scribble writes over all of b, spare room included.
func scribble(b []byte) {
	b = b[:cap(b)]
	for i := range b {
		b[i] = '!'
	}
}

func scribblePieces(l []api.Piece) {
	l = l[:cap(l)]
	for i := range l {
		scribble(l[i].Data)
		l[i] = api.Piece{Seq: 99, Syn: true, Data: []byte("over")}
	}
}

func scribbleOuts(l []api.Out) {
	l = l[:cap(l)]
	for i := range l {
		scribble(l[i].Piece.Data)
		l[i] = api.Out{Piece: api.Piece{Seq: 99, Fin: true, Data: []byte("over")}, Ack: 99, Rst: true}
	}
}

// R4, what is handed in

func TestGivenIsNotChanged(t *testing.T) {
	whole := []byte("abcdefghijkl")
	for n := range 10 {
		f := open(3, 9)
		s := f.seg("F @1 A1")
		s.Data = whole[:n]
		s.Opts = make([]api.Option, 1, 4)
		f.Send(whole[:n], 1, true, 11)
		scribblePieces(f.Left())
		f.Expire(14)
		scribbleOuts(f.Out())
		was := s
		scribblePieces(f.Hear(s, 15).Acked)
		scribbleOuts(f.Out())
		other := place{flow.Answer(1, s, 15), 1, 9}
		scribbleOuts(other.Out())
		if string(whole) != "abcdefghijkl" || !reflect.DeepEqual(s, was) || !reflect.DeepEqual(s.Opts, make([]api.Option, 1)) {
			t.Errorf("%d: %q, %v", n, whole, s)
		}
	}
}

// What was handed in may change: a flow keeps nothing of it.
func TestGivenIsNotKept(t *testing.T) {
	f := open(3, 9)
	f.Out()
	for n := 1; n < 9; n++ {
		data := append(make([]byte, 0, 12), "abcdefgh"[:n]...)
		f.Send(data, n, false, 11)
		scribble(data)
		s := f.seg("@1 A1")
		s.Data = append(make([]byte, 0, 12), "xy"...)
		f.Hear(s, 11)
		scribble(s.Data)
	}
	const left = "a#1@1 ab#2@2 abc#3@4 abcd#4@7 abcde#5@11 abcdef#6@16 abcdefg#7@22 abcdefgh#8@29"
	if got := f.pieces(f.Left()); got != left {
		t.Error(got)
	}
	const outs = "a#1@1 a1, @2 a3, ab#2@2 a3, @4 a3, abc#3@4 a3, @7 a3, abcd#4@7 a3, @11 a3, abcde#5@11 a3, @16 a3, abcdef#6@16 a3, @22 a3, abcdefg#7@22 a3, @29 a3, abcdefgh#8@29 a3, @37 a3"
	if got := f.outs(); got != outs {
		t.Error(got)
	}
}

// R4, what is answered

// over asks what answers lists, and writes over them. What is to be sent is asked now and then alone, so that some of it is kept meanwhile.
func (b *both) over(outs bool) {
	scribblePieces(b.f.Left())
	if outs {
		scribbleOuts(b.out())
	}
}

// A flow goes on as it would if its answers are written over.
func TestAnswerIsNewMemory(t *testing.T) {
	for seed := range 300 {
		d := dice(seed)
		b := starts(t, seqs[seed%len(seqs)])[seed%3]
		for n := range 80 {
			b.something(&d)
			b.over(n%3 == 0)
			s := b.segment(&d)
			scribblePieces(b.hear(s).Acked)
		}
		b.out()
		if t.Failed() {
			t.Fatalf("from %d", seed)
		}
	}
}

// No two answers share any, nor two pieces of one.
func TestAnswersAreApart(t *testing.T) {
	f := several(1, 5)
	f.Tell()
	lists := [][]api.Piece{f.Left(), f.Left()}
	keep := func(l []api.Out) {
		var pieces []api.Piece
		for _, o := range l {
			pieces = append(pieces, o.Piece)
		}
		lists = append(lists, pieces)
	}
	f.Expire(14)
	f.Expire(20)
	keep(f.Out())
	f.Expire(32)
	keep(f.Out())
	lists = append(lists, f.hears("@1 A5", 33).Acked, f.Left(), f.hears("@1 A7", 33).Acked)
	var all []api.Piece
	for _, l := range lists {
		all = append(all, l...)
	}
	for i, p := range all {
		was := bytes.Clone(p.Data)
		for _, q := range slices.Concat(all[:i], all[i+1:]) {
			scribble(q.Data)
		}
		if !bytes.Equal(p.Data, was) {
			t.Errorf("%d: %q became %q", i, was, p.Data)
		}
	}
	if len(all) != 3+3+7+3+2+1+1 {
		t.Error(len(all))
	}
}

// What is to be sent later reaches nothing of what was answered.
func TestOutsAreApart(t *testing.T) {
	f := open(1, 5)
	for many := range 9 {
		for range many {
			f.Tell()
		}
		l := f.Out()
		was := slices.Clone(l[:cap(l)])
		for range 9 {
			f.Probe()
		}
		later := f.Out()
		scribbleOuts(later)
		for i := range was {
			if !reflect.DeepEqual(l[:cap(l)][i], was[i]) {
				t.Errorf("%d: %v became %v", many, was[i], l[:cap(l)][i])
			}
		}
	}
}

// One flow changes nothing of another one's.
func TestFlowsAreApart(t *testing.T) {
	d := dice(9)
	all := append(starts(t, 5), starts(t, 5)...)
	for range 3000 {
		all[d.below(len(all))].something(&d)
		for _, b := range all {
			b.look()
		}
	}
}

// R5

// log is what a flow answers to calls that the dice tell.
func log(t *testing.T, seed int, between func()) string {
	d, said := dice(seed), ""
	b := starts(t, greatest)[seed%3]
	for range 100 {
		b.something(&d)
		between()
		at, has := b.f.At()
		said += fmt.Sprintln(b.hear(b.segment(&d)), b.out(), b.f.State(), at, has, b.f.Left(), b.f.Smooth())
	}
	return said
}

// The same calls have the same answers, whatever else is asked between.
func TestSameCallsSameAnswers(t *testing.T) {
	for seed := range 20 {
		d := dice(seed + 1)
		other := starts(t, 77)[1]
		first := log(t, seed, func() {})
		if again := log(t, seed, func() { other.something(&d) }); first != again {
			t.Errorf("%d: other answers", seed)
		}
	}
}
