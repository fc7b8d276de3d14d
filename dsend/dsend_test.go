package dsend_test

import (
	"math"
	"testing"

	"ferrybridge/api"
	"ferrybridge/dsend"
)

// letters are data, of which each is another one, from the number 1 on.
const letters = "abcdefghijklmnopqrstuvwxyzABCDEFGHIJKLMNOPQRSTUVWXYZ0123456789+-*/"

// written is a sender of the first so many letters.
func written(t *testing.T, many int) both {
	t.Helper()
	b := newBoth(t)
	b.wrote(letters[:many], many, api.OK)
	return b
}

// sent is a sender of the first so many letters, at most 32, all of which were taken.
func sent(t *testing.T, many int) both {
	t.Helper()
	b := written(t, many)
	b.rest()
	return b
}

// These tell both, and hold what is answered against what is written.

func (b both) wrote(data string, n int, want api.Errno) {
	b.t.Helper()
	got, e := b.x.Write([]byte(data))
	if b.p.write([]byte(data)); got != n || e != want {
		b.t.Errorf("Write(%q): %d, %d, not %d, %d", data, got, e, n, want)
	}
	b.look()
}

func (b both) ended(want api.Errno) {
	b.t.Helper()
	e := b.x.End()
	if b.p.tellEnd(); e != want {
		b.t.Errorf("End: %d, not %d", e, want)
	}
	b.look()
}

func (b both) took(most, dsn int, data string) {
	b.t.Helper()
	got, d := b.x.Take(most)
	if b.p.take(most); got != dsn || string(d) != data {
		b.t.Errorf("Take(%d): %d, %q, not %d, %q", most, got, d, dsn, data)
	}
	b.look()
}

func (b both) lost(dsn, long, n int) {
	b.t.Helper()
	got := b.x.Lost(dsn, long)
	if b.p.lose(dsn, long); got != n {
		b.t.Errorf("Lost(%d, %d): %d, not %d", dsn, long, got, n)
	}
	b.look()
}

func (b both) acked(ack, win, n int, want bool) {
	b.t.Helper()
	got, is := b.x.Ack(ack, win)
	if b.p.ack(ack, win); got != n || is != want {
		b.t.Errorf("Ack(%d, %d): %d, %v, not %d, %v", ack, win, got, is, n, want)
	}
	b.look()
}

// The chapter's example

func TestExample(t *testing.T) {
	s := dsend.New()
	if n, e := s.Write([]byte("abc")); n != 3 || e != api.OK {
		t.Error(n, e)
	}
	if dsn, data := s.Take(2); dsn != 1 || string(data) != "ab" {
		t.Error(dsn, data)
	}
	if dsn, data := s.Take(2); dsn != 3 || string(data) != "c" {
		t.Error(dsn, data)
	}
}

// P15.4, at first

func TestNew(t *testing.T) {
	b := newBoth(t)
	b.is(1, 1, 33, 0, 0, false, false)
	b.took(8, 0, "")
	b.lost(1, 100, 0)
	b.acked(0, 32, 0, false)
	b.acked(2, 32, 0, false)
	b.is(1, 1, 33, 0, 0, false, false)
	b.acked(1, 32, 0, true)
	b.is(1, 1, 33, 0, 0, false, false)
}

// P15.1, Write

func TestWrite(t *testing.T) {
	b := newBoth(t)
	b.wrote("", 0, api.OK)
	b.is(1, 1, 33, 0, 0, false, false)
	b.wrote("ab", 2, api.OK)
	b.wrote("c", 1, api.OK)
	b.is(1, 1, 33, 3, 0, false, false)
	b.took(8, 1, "abc")
	b.wrote("de", 2, api.OK)
	b.is(1, 4, 33, 5, 0, false, false)
	b.took(8, 4, "de")
	if n, e := b.x.Write(nil); n != 0 || e != api.OK {
		t.Error(n, e)
	}
}

// There is room for 64: of what is more the first ones are behind the others, and none of the rest.
func TestWriteBeyondTheRoom(t *testing.T) {
	for held := range 65 {
		for long := range 67 {
			b := written(t, held)
			n := min(long, 64-held)
			want := api.OK
			if held == 64 && long > 0 {
				want = api.ErrFull
			}
			b.wrote(letters[:long], n, want)
			b.is(1, 1, 33, held+n, 0, false, false)
			b.took(8, min(held+n, 1), (letters[:held] + letters[:n])[:min(held+n, 8)])
		}
	}
}

// What was taken, or is lost, is held till it is acknowledged; then there is room for so many.
func TestRoomComesByAcks(t *testing.T) {
	b := newBoth(t)
	b.wrote(letters, 64, api.OK)
	for range 4 {
		b.take(8)
	}
	b.wrote("x", 0, api.ErrFull)
	b.lost(1, 10, 10)
	b.wrote("x", 0, api.ErrFull)
	b.acked(1, 40, 0, true)
	b.wrote("x", 0, api.ErrFull)
	b.acked(4, 40, 3, true)
	b.wrote("wxyz", 3, api.OK)
	b.wrote("z", 0, api.ErrFull)
	b.wrote("", 0, api.OK)
	b.is(4, 33, 44, 64, 0, false, false)
	b.took(8, 4, "defghij")
	b.acked(33, 64, 29, true)
	b.is(33, 33, 97, 35, 0, false, false)
	for _, want := range []string{"GHIJKLMN", "OPQRSTUV", "WXYZ0123", "456789+-", "wxy"} {
		b.took(8, b.p.next(), want)
	}
	b.is(33, 68, 97, 35, 0, false, false)
}

// Behind the end nothing may be written: that is named ahead of there being no room.
func TestWriteBehindTheEnd(t *testing.T) {
	for _, held := range []int{0, 1, 63, 64} {
		b := written(t, held)
		b.ended(api.OK)
		for _, long := range []int{0, 1, 64, 66} {
			b.wrote(letters[:long], 0, api.ErrClosed)
		}
		if n, e := b.x.Write(nil); n != 0 || e != api.ErrClosed {
			t.Error(n, e)
		}
		b.rest()
		b.acked(b.p.next(), 64, min(held, 32), true)
		b.wrote("x", 0, api.ErrClosed)
		b.rest()
		b.acked(held+2, 0, held-min(held, 32), true)
		b.wrote("x", 0, api.ErrClosed)
		b.is(held+1, held+1, b.p.edge, 0, 0, false, true)
	}
}

// P15.1, End

func TestEnd(t *testing.T) {
	for _, held := range []int{0, 1, 32, 64} {
		b := written(t, held)
		b.ended(api.OK)
		b.ended(api.ErrTwice)
		b.rest()
		b.ended(api.ErrTwice)
		b.ack(min(held, 32)+1, 64)
		b.rest()
		b.ack(held+2, 0)
		b.ended(api.ErrTwice)
		b.is(held+1, held+1, b.p.edge, 0, 0, false, true)
	}
}

// P15.2, Take

// At most so many are from 1 to 8.
func TestTakeAtMost(t *testing.T) {
	for _, most := range edges {
		want := max(1, min(most, 8))
		b := written(t, 60)
		b.took(most, 1, letters[:want])
		b.took(most, 1+want, letters[want:2*want])
		b.lost(1, 12, min(2*want, 12))
		b.took(most, 1, letters[:want])
		b.took(most, 1+want, letters[want:min(2*want, 12)])
	}
}

// Those that were never taken go in order, as far as they were written.
func TestTakeInOrder(t *testing.T) {
	for many := range 33 {
		for most := 1; most <= 8; most++ {
			b := written(t, many)
			for n := 0; n < many; n += most {
				b.took(most, n+1, letters[n:min(n+most, many)])
			}
			b.took(most, 0, "")
			b.wrote("!", 1, api.OK)
			if many < 32 {
				b.took(most, many+1, "!")
			} else {
				b.took(most, 0, "")
			}
		}
	}
}

// Below the edge: that one isn't taken itself.
func TestTakeBelowTheEdge(t *testing.T) {
	for _, c := range []struct {
		ack, win, edge int
		data           string
	}{
		{1, 0, 33, ""}, {1, 31, 33, ""}, {1, 32, 33, ""}, {1, 33, 34, letters[32:33]}, {1, 36, 37, letters[32:36]}, {1, 40, 41, letters[32:40]}, {1, 41, 42, letters[32:40]},
		{5, 28, 33, ""}, {5, 29, 34, letters[32:33]}, {33, 0, 33, ""}, {33, 1, 34, letters[32:33]}, {33, 65535, 65568, letters[32:40]},
	} {
		b := written(t, 64)
		for n := 0; n < 32; n += 8 {
			b.took(8, n+1, letters[n:n+8])
		}
		b.took(8, 0, "")
		b.acked(c.ack, c.win, c.ack-1, true)
		dsn := 0
		if c.data != "" {
			dsn = 33
		}
		b.took(8, dsn, c.data)
		b.is(c.ack, 33+len(c.data), c.edge, 64-c.ack+1, 0, false, false)
	}
}

// The edge comes between: a part is taken, and the rest when it goes on.
func TestTakeUpToTheEdge(t *testing.T) {
	b := written(t, 64)
	for _, want := range []string{"abcde", "fghij", "klmno", "pqrst", "uvwxy", "zABCD", "EF", ""} {
		dsn := b.p.next()
		if want == "" {
			dsn = 0
		}
		b.took(5, dsn, want)
	}
	b.acked(3, 32, 2, true)
	b.took(5, 33, "GH")
	b.took(5, 0, "")
}

// Lost ones are taken ahead of all others: the first run of them, or its beginning.
func TestTakeLostOnesFirst(t *testing.T) {
	b := sent(t, 30)
	b.lost(20, 3, 3)
	b.lost(10, 5, 5)
	b.lost(2, 1, 1)
	b.lost(15, 5, 5)
	b.took(8, 2, "b")
	b.took(4, 10, "jklm")
	b.lost(4, 2, 2)
	b.lost(10, 1, 1)
	b.took(1, 4, "d")
	b.took(8, 5, "e")
	b.took(8, 10, "j")
	b.took(8, 14, "nopqrstu")
	b.took(8, 22, "v")
	b.took(8, 0, "")
}

// A run that ends where those begin that were never taken isn't gone beyond.
func TestTakeLostOnesAlone(t *testing.T) {
	b := written(t, 20)
	b.took(6, 1, "abcdef")
	b.lost(4, 3, 3)
	b.took(8, 4, "def")
	b.took(8, 7, "ghijklmn")
	b.lost(1, 99, 14)
	b.took(8, 1, "abcdefgh")
	b.took(8, 9, "ijklmn")
	b.took(8, 15, "opqrst")
	b.is(1, 21, 33, 20, 0, false, false)
}

// They are taken also where the window is used up, and where nothing else was written.
func TestTakeLostOnesBehindTheEdge(t *testing.T) {
	b := written(t, 64)
	for range 4 {
		b.take(8)
	}
	b.took(8, 0, "")
	b.lost(31, 2, 2)
	b.took(8, 31, "EF")
	b.lost(31, 2, 2)
	b.acked(32, 0, 31, true)
	b.took(8, 32, "F")
	b.took(8, 0, "")
	b.is(32, 33, 33, 33, 0, false, false)
}

// P15.2, Lost

// Of numbers from una on, below next, those that weren't lost are counted.
func TestLost(t *testing.T) {
	for dsn := -2; dsn < 36; dsn++ {
		for long := -2; long < 36; long++ {
			b := written(t, 40)
			b.take(8)
			b.take(8)
			b.take(8)
			b.acked(6, 32, 5, true)
			first, behind := max(dsn, 6), min(dsn+max(long, 0), 25)
			n := max(behind-first, 0)
			b.lost(dsn, long, n)
			b.lost(dsn, long, 0)
			if n > 0 {
				b.took(8, first, letters[first-1:min(behind, first+8)-1])
			} else {
				b.took(8, 25, letters[24:32])
			}
			b.rest()
		}
	}
}

// Also where the numbers, or what they come to, are at the ends of all there are.
func TestLostAtTheEnds(t *testing.T) {
	for _, c := range []struct{ dsn, long, n int }{
		{math.MinInt, 0, 0}, {math.MinInt, -1, 0}, {math.MinInt, math.MinInt, 0}, {math.MinInt, 1, 0}, {math.MinInt, math.MaxInt, 0}, {math.MinInt + 5, math.MaxInt, 0}, {math.MinInt + 7, math.MaxInt, 2},
		{math.MinInt + 12, math.MaxInt, 7}, {math.MinInt + 13, math.MaxInt, 7}, {math.MinInt + 100, math.MaxInt, 7},
		{-1, math.MaxInt, 7}, {0, math.MaxInt, 7}, {1, math.MaxInt, 7}, {4, math.MaxInt, 7}, {5, math.MaxInt, 6}, {10, math.MaxInt, 1}, {11, math.MaxInt, 0}, {math.MaxInt, math.MaxInt, 0},
		{math.MaxInt, 1, 0}, {math.MaxInt - 1, 2, 0}, {math.MaxInt, 0, 0}, {math.MaxInt, -1, 0}, {5, -1, 0}, {5, math.MinInt, 0}, {math.MaxInt, math.MinInt, 0},
		{-1 << 32, 1<<32 + 6, 2}, {1 << 32, 1 << 32, 0}, {1<<32 + 5, 2, 0}, {-1<<32 + 5, 2, 0},
	} {
		b := sent(t, 10)
		b.acked(4, 32, 3, true)
		b.lost(c.dsn, c.long, c.n)
		b.rest()
	}
}

// Those that were lost already aren't counted, and those that were taken once more are.
func TestLostOnceMore(t *testing.T) {
	b := sent(t, 20)
	b.lost(5, 4, 4)
	b.lost(3, 8, 4)
	b.lost(1, 20, 12)
	b.took(7, 1, "abcdefg")
	b.lost(6, 4, 2)
	b.lost(6, 4, 0)
	b.took(8, 6, "fghijklm")
	b.took(8, 14, "nopqrst")
	b.took(8, 0, "")
	b.lost(1, 20, 20)
}

// P15.3, Ack

// Each number about a sender, and about its end: whether it may be acknowledged, and how many that are.
func TestAck(t *testing.T) {
	for ack := -3; ack < 40; ack++ {
		b := written(t, 20)
		b.take(8)
		b.take(4)
		b.acked(5, 9, 4, true)
		if ack < 5 || ack > 13 {
			b.acked(ack, 32, 0, false)
			b.is(5, 13, 33, 16, 0, false, false)
			continue
		}
		b.acked(ack, 32, ack-5, true)
		b.is(ack, 13, max(33, ack+32), 21-ack, 0, false, false)
		b.lost(1, 12, 13-ack)
		b.rest()
	}
}

func TestAckOfNumbersOfAllSorts(t *testing.T) {
	for _, ack := range edges {
		for _, win := range edges {
			b := sent(t, 9)
			is := ack >= 1 && ack <= 10 && win >= 0 && win <= 65535
			if !is {
				b.acked(ack, win, 0, false)
				b.is(1, 10, 33, 9, 0, false, false)
			} else {
				b.acked(ack, win, ack-1, true)
				b.is(ack, 10, max(33, ack+win), 10-ack, 0, false, false)
			}
			b.end()
			b.ack(ack, win)
			b.ack(win, ack)
			b.lost(1, 9, b.p.held())
			b.rest()
		}
	}
}

// The edge goes on, and never back.
func TestAckMovesTheEdge(t *testing.T) {
	b := sent(t, 30)
	for _, c := range []struct{ ack, win, n, edge int }{
		{1, 0, 0, 33}, {1, 32, 0, 33}, {1, 33, 0, 34}, {1, 32, 0, 34}, {2, 0, 1, 34}, {10, 24, 8, 34}, {10, 25, 0, 35}, {10, 0, 0, 35}, {10, 65535, 0, 65545}, {31, 65514, 21, 65545}, {31, 65515, 0, 65546}, {31, 65535, 0, 65566},
	} {
		b.acked(c.ack, c.win, c.n, true)
		b.is(c.ack, 31, c.edge, 31-c.ack, 0, false, false)
	}
	for _, win := range []int{-1, 65536, math.MinInt, math.MaxInt} {
		b.acked(31, win, 0, false)
		b.is(31, 31, 65566, 0, 0, false, false)
	}
}

// What is acknowledged isn't lost any more; what is behind it stays as it was.
func TestAckOfLostOnes(t *testing.T) {
	for ack := 1; ack <= 21; ack++ {
		b := sent(t, 20)
		b.lost(4, 3, 3)
		b.lost(10, 5, 5)
		b.acked(ack, 0, ack-1, true)
		switch {
		case ack <= 6:
			b.took(8, max(ack, 4), letters[max(ack, 4)-1:6])
			b.took(8, 10, "jklmn")
		case ack <= 14:
			b.took(8, max(ack, 10), letters[max(ack, 10)-1:14])
		}
		b.took(8, 0, "")
		b.lost(1, 20, 21-ack)
		b.rest()
	}
}

// One that may not be changes nothing, whatever else comes with it.
func TestAckThatMayNotBe(t *testing.T) {
	b := written(t, 20)
	b.take(8)
	b.take(4)
	b.acked(3, 32, 2, true)
	b.lost(5, 2, 2)
	for _, c := range []struct{ ack, win int }{{2, 32}, {14, 32}, {21, 32}, {22, 32}, {8, -1}, {8, 65536}, {13, 65536}, {-5, 60}, {math.MaxInt, 65535}, {math.MinInt, 0}, {math.MaxInt - 1, 1}, {1<<32 + 8, 50}} {
		b.acked(c.ack, c.win, 0, false)
		b.is(3, 13, 35, 18, 0, false, false)
	}
	b.took(8, 5, "ef")
	b.took(8, 13, "mnopqrst")
}

// P15.3, the end

// It may be acknowledged only if it was told, and all data were taken.
func TestAckOfTheEnd(t *testing.T) {
	b := written(t, 10)
	b.take(8)
	b.acked(12, 32, 0, false)
	b.ended(api.OK)
	for ack := 10; ack < 14; ack++ {
		b.acked(ack, 32, 0, false)
	}
	b.is(1, 9, 33, 10, 0, false, false)
	b.take(8)
	b.is(1, 11, 33, 10, 11, true, false)
	b.acked(13, 32, 0, false)
	b.is(1, 11, 33, 10, 11, true, false)
	b.acked(12, 20, 10, true)
	b.is(11, 11, 33, 0, 0, false, true)
}

// Data alone that were all acknowledged don't tell that their end was.
func TestAckOfAllButTheEnd(t *testing.T) {
	b := sent(t, 10)
	b.acked(11, 32, 10, true)
	b.acked(12, 32, 0, false)
	b.is(11, 11, 43, 0, 0, false, false)
	b.ended(api.OK)
	b.is(11, 11, 43, 0, 11, true, false)
	b.acked(11, 32, 0, true)
	b.is(11, 11, 43, 0, 11, true, false)
	b.acked(12, 31, 0, true)
	b.is(11, 11, 43, 0, 0, false, true)
}

// Una is the end's number at most; the edge is reckoned from what came, and goes on behind the end, too.
func TestAckBehindTheEnd(t *testing.T) {
	b := newBoth(t)
	b.ended(api.OK)
	b.is(1, 1, 33, 0, 1, true, false)
	b.acked(2, 31, 0, true)
	b.is(1, 1, 33, 0, 0, false, true)
	b.acked(2, 32, 0, true)
	b.is(1, 1, 34, 0, 0, false, true)
	b.acked(1, 34, 0, true)
	b.is(1, 1, 35, 0, 0, false, true)
	b.acked(3, 50, 0, false)
	b.acked(0, 50, 0, false)
	b.acked(2, 65536, 0, false)
	b.is(1, 1, 35, 0, 0, false, true)
	b.took(8, 0, "")
	b.lost(1, 5, 0)
}

// The end is due if it was told, all data were taken, and none is lost: whether they were acknowledged or not.
func TestDue(t *testing.T) {
	b := written(t, 40)
	b.rest()
	b.is(1, 33, 33, 40, 0, false, false)
	b.ended(api.OK)
	b.is(1, 33, 33, 40, 0, false, false)
	b.acked(5, 64, 4, true)
	b.is(5, 33, 69, 36, 0, false, false)
	b.took(7, 33, "GHIJKLM")
	b.is(5, 40, 69, 36, 0, false, false)
	b.took(8, 40, "N")
	b.is(5, 41, 69, 36, 41, true, false)
	b.lost(40, 1, 1)
	b.is(5, 41, 69, 36, 0, false, false)
	b.lost(7, 2, 2)
	b.acked(9, 0, 4, true)
	b.is(9, 41, 69, 32, 0, false, false)
	b.took(8, 40, "N")
	b.is(9, 41, 69, 32, 41, true, false)
	b.lost(9, 1, 1)
	b.acked(10, 0, 1, true)
	b.is(10, 41, 69, 31, 41, true, false)
	b.acked(41, 0, 31, true)
	b.is(41, 41, 69, 0, 41, true, false)
	b.acked(42, 0, 0, true)
	b.is(41, 41, 69, 0, 0, false, true)
}

// If it is acknowledged all data are, also those that were lost.
func TestAckOfTheEndWithLostOnes(t *testing.T) {
	b := sent(t, 10)
	b.ended(api.OK)
	b.lost(3, 5, 5)
	b.is(1, 11, 33, 10, 0, false, false)
	b.acked(12, 0, 10, true)
	b.is(11, 11, 33, 0, 0, false, true)
	b.took(8, 0, "")
	b.lost(1, 20, 0)
}

// P15.4, R1, a sender that is nil

func TestNil(t *testing.T) {
	var s *dsend.Send
	for _, n := range edges {
		for _, data := range [][]byte{nil, {}, []byte("abc"), make([]byte, 65)} {
			if n, e := s.Write(data); n != 0 || e != api.ErrNil {
				t.Error(n, e)
			}
		}
		if dsn, data := s.Take(n); dsn != 0 || len(data) != 0 {
			t.Error(dsn, data)
		}
		for _, m := range edges {
			if n := s.Lost(n, m); n != 0 {
				t.Error(n)
			}
			if n, is := s.Ack(n, m); n != 0 || is {
				t.Error(n, is)
			}
		}
	}
	if e := s.End(); e != api.ErrNil {
		t.Error(e)
	}
	if n, is := s.Due(); n != 0 || is {
		t.Error(n, is)
	}
	if s.Una() != 0 || s.Next() != 0 || s.Edge() != 0 || s.Held() != 0 || s.Done() {
		t.Error(s.Una(), s.Next(), s.Edge(), s.Held(), s.Done())
	}
}

// All of it

func TestAllSorts(t *testing.T) {
	for seed := range 1500 {
		d, b := dice(seed), newBoth(t)
		for range 150 {
			b.something(&d)
		}
		b.rest()
		if t.Failed() {
			t.Fatal(seed)
		}
	}
}
