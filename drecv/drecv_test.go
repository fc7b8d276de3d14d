package drecv_test

import (
	"math"
	"slices"
	"strings"
	"testing"

	"ferrybridge/api"
	"ferrybridge/drecv"
)

// letters are data, of which each is another one, from the number 1 on.
const letters = "abcdefghijklmnopqrstuvwxyzABCDEFGHIJKLMNOPQRSTUVWXYZ0123456789+-*/"

// came is a receiver of the first so many letters, at most 32, of which so many were read.
func came(t *testing.T, many, read int) both {
	t.Helper()
	b := newBoth(t)
	b.puts(1, letters[:many], many)
	if read > 0 {
		b.reads(read, letters[:read], api.OK)
	}
	return b
}

// unless is what Read tells, if so many data may be read: e, if there are none.
func unless(many int, e api.Errno) api.Errno {
	if many > 0 {
		return api.OK
	}
	return e
}

// These tell both, and hold what is answered against what is written.

func (b both) puts(dsn int, data string, n int) {
	b.t.Helper()
	got := b.x.Put(dsn, []byte(data))
	if b.p.put(dsn, []byte(data)); got != n {
		b.t.Errorf("Put(%d, %q): %d, not %d", dsn, data, got, n)
	}
	b.look()
}

func (b both) ends(dsn int, want bool) {
	b.t.Helper()
	got := b.x.End(dsn)
	if b.p.tellEnd(dsn); got != want {
		b.t.Errorf("End(%d): %v, not %v", dsn, got, want)
	}
	b.look()
}

func (b both) reads(most int, data string, want api.Errno) {
	b.t.Helper()
	got, e := b.x.Read(most)
	if b.p.take(most); string(got) != data || e != want {
		b.t.Errorf("Read(%d): %q, %d, not %q, %d", most, got, e, data, want)
	}
	b.look()
}

// The chapter's example

func TestExample(t *testing.T) {
	r := drecv.New()
	r.Put(3, []byte("c"))
	r.Put(1, []byte("ab"))
	if b, e := r.Read(9); string(b) != "abc" || e != api.OK {
		t.Error(b, e)
	}
}

// At first

func TestNew(t *testing.T) {
	b := newBoth(t)
	b.is(1, 32, 0, false)
	for _, most := range edges {
		b.reads(most, "", api.ErrWait)
	}
	b.is(1, 32, 0, false)
	b.rest()
}

// P16.1

// Those that are next come, and next goes on; the edge stays where it is till they are read.
func TestPutInOrder(t *testing.T) {
	b := newBoth(t)
	for n := range 32 {
		b.puts(n+1, letters[n:n+1], 1)
		b.is(n+2, 31-n, n+1, false)
	}
	b.puts(33, "GH", 0)
	b.is(33, 0, 32, false)
	b.reads(40, letters[:32], api.OK)
	b.is(33, 32, 0, false)
	b.puts(33, "GH", 2)
	b.is(35, 30, 2, false)
}

// Each stretch of numbers about a receiver: those come that are from next on, and below the edge.
func TestPut(t *testing.T) {
	for dsn := -3; dsn < 45; dsn++ {
		for long := range 46 {
			b := came(t, 10, 4)
			first, behind := max(dsn, 11), min(dsn+long, 37)
			b.puts(dsn, letters[:long], max(behind-first, 0))
			if first == 11 && behind > 11 {
				b.is(behind, 37-behind, behind-5, false)
			} else {
				b.is(11, 26, 6, false)
			}
			b.puts(dsn, letters[20:20+long], 0)
			b.rest()
		}
	}
}

// What came ahead waits till what is ahead of it came; then next is behind all of it.
func TestPutAhead(t *testing.T) {
	b := newBoth(t)
	b.puts(5, "ef", 2)
	b.puts(9, "ij", 2)
	b.puts(3, "c", 1)
	b.is(1, 32, 0, false)
	b.reads(9, "", api.ErrWait)
	b.puts(2, "b", 1)
	b.is(1, 32, 0, false)
	b.puts(1, "a", 1)
	b.is(4, 29, 3, false)
	b.puts(7, "g", 1)
	b.is(4, 29, 3, false)
	b.reads(2, "ab", api.OK)
	b.is(4, 31, 1, false)
	b.puts(4, "d", 1)
	b.is(8, 27, 5, false)
	b.puts(8, "h", 1)
	b.is(11, 24, 8, false)
	b.reads(99, "cdefghij", api.OK)
	b.is(11, 32, 0, false)
}

// Five pieces may come in any order: next is behind the first ones that came, one behind the other.
func TestPutInAllOrders(t *testing.T) {
	for _, order := range orders(5) {
		b, had := newBoth(t), map[int]bool{}
		for _, n := range order {
			b.puts(3*n+1, letters[3*n:3*n+3], 3)
			had[n] = true
			first := 0
			for had[first] {
				first++
			}
			b.is(3*first+1, 32-3*first, 3*first, false)
		}
		b.reads(99, letters[:15], api.OK)
	}
}

// orders are all those of the numbers below n.
func orders(n int) [][]int {
	if n == 0 {
		return [][]int{nil}
	}
	var l [][]int
	for _, o := range orders(n - 1) {
		for at := range n {
			l = append(l, slices.Insert(slices.Clone(o), at, n-1))
		}
	}
	return l
}

// Of a stretch in which some came already the others are counted, also if those lie in its midst.
func TestPutOverWhatCame(t *testing.T) {
	for _, c := range []struct {
		dsn    int
		data   string
		n      int
		behind string
	}{
		{1, "ABCDEFGHIJKLMNOP", 10, "ABCdeFGhIjklMNOP"}, {3, "C", 1, ""}, {4, "DE", 0, ""}, {4, "DEFGH", 2, ""}, {5, "EFGHI", 3, ""}, {1, "ABC", 3, "ABCde"}, {1, "ABCD", 3, "ABCde"}, {1, "ABCDEF", 4, "ABCdeF"},
		{0, "?ABC", 3, "ABCde"}, {6, "FG", 2, ""}, {9, "I", 1, ""}, {10, "JKL", 0, ""}, {10, "JKLM", 1, ""}, {12, "LMN", 2, ""}, {2, "BCDEFGHIJKLM", 6, ""},
	} {
		b := newBoth(t)
		b.puts(4, "de", 2)
		b.puts(8, "h", 1)
		b.puts(10, "jkl", 3)
		b.puts(c.dsn, c.data, c.n)
		b.puts(c.dsn, strings.Repeat("x", len(c.data)), 0)
		b.is(1+len(c.behind), 32-len(c.behind), len(c.behind), false)
		b.reads(99, c.behind, unless(len(c.behind), api.ErrWait))
		b.rest()
	}
}

// The edge is 32 behind the first datum that wasn't read: that is told by what was read, not by what came.
func TestPutAtTheEdge(t *testing.T) {
	for read := range 33 {
		b := came(t, 32, read)
		b.is(33, read, 32-read, false)
		b.puts(33+read, "x", 0)
		b.puts(34+read, "x", 0)
		if read == 0 {
			continue
		}
		b.puts(32+read, "yx", 1)
		if read > 1 {
			b.is(33, read, 32-read, false)
		}
		b.puts(33, letters[:60], read-1)
		b.is(33+read, 0, 32, false)
	}
}

// Below the end's number alone: that one isn't a datum's.
func TestPutAtTheEnd(t *testing.T) {
	for end := 11; end <= 37; end++ {
		for dsn := 5; dsn < 40; dsn++ {
			b := came(t, 10, 4)
			b.ends(end, true)
			b.puts(dsn, letters[:34], max(end-max(dsn, 11), 0))
			if dsn <= 11 {
				b.is(end+1, 37-end, end-5, true)
			}
			b.rest()
			b.puts(end, "x", 0)
			b.is(end+1, 32, 0, true)
		}
	}
}

// The end told, the edge stands above it, and what is behind the end comes no more, whatever is read.
func TestPutBehindTheEnd(t *testing.T) {
	b := came(t, 10, 0)
	b.ends(11, true)
	b.puts(11, "k", 0)
	b.reads(99, letters[:10], api.OK)
	for _, dsn := range []int{11, 12, 42, 43, 44} {
		b.puts(dsn, "xyz", 0)
	}
	b.is(12, 32, 0, true)
	b.reads(1, "", api.ErrClosed)
}

func TestPutOfNumbersOfAllSorts(t *testing.T) {
	for _, dsn := range edges {
		for _, long := range []int{0, 1, 2, 3, 8, 31, 32, 33, 64, 65, 100} {
			for _, ahead := range []int{0, 1, 5, 32} {
				b := came(t, ahead, ahead/2)
				b.put(dsn, make([]byte, long))
				b.put(dsn, dataOf(long))
				b.rest()
			}
		}
	}
}

// dataOf is so many, of which each is another one than its neighbours.
func dataOf(many int) []byte {
	b := make([]byte, many)
	for i := range b {
		b[i] = byte(i + 1)
	}
	return b
}

// Far below 1 nothing comes, but what reaches up to next does.
func TestPutFromFarBelow(t *testing.T) {
	for _, c := range []struct{ dsn, long, n int }{
		{-1000, 1000, 0}, {-1000, 1001, 0}, {-1000, 1002, 1}, {-1000, 1033, 32}, {-1000, 1034, 32}, {-1000, 2000, 32}, {-70000, 70003, 2}, {math.MinInt, 70003, 0}, {math.MaxInt, 70003, 0}, {math.MaxInt - 70000, 70003, 0},
	} {
		b := newBoth(t)
		b.puts(c.dsn, string(dataOf(c.long)), c.n)
		b.is(1+c.n, 32-c.n, c.n, false)
		if c.n > 0 {
			b.reads(99, string(dataOf(c.long)[1-c.dsn:1-c.dsn+c.n]), api.OK)
		}
		b.rest()
	}
}

func TestPutOfNothing(t *testing.T) {
	for _, dsn := range edges {
		for _, data := range [][]byte{nil, {}} {
			b := came(t, 5, 2)
			if n := b.x.Put(dsn, data); n != 0 {
				t.Error(dsn, n)
			}
			b.is(6, 29, 3, false)
			b.rest()
		}
	}
}

// P16.2, End

// Each number about a receiver: what came goes from 1 to 10, and from 15 to 16; four were read.
func TestEnd(t *testing.T) {
	for dsn := -3; dsn < 45; dsn++ {
		b := came(t, 10, 4)
		b.puts(15, "op", 2)
		is := dsn >= 17 && dsn <= 37
		b.ends(dsn, is)
		b.ends(dsn, is)
		b.is(11, 26, 6, false)
		b.ends(17, !is || dsn == 17)
		b.ends(30, dsn == 30)
		b.rest()
	}
}

// Where nothing came ahead the end may be next itself, and is come up to at once.
func TestEndAtNext(t *testing.T) {
	for many := range 33 {
		for read := range many + 1 {
			b := came(t, many, read)
			b.ends(many, false)
			b.ends(0, false)
			b.is(many+1, 32-many+read, many-read, false)
			b.ends(many+1, true)
			b.is(many+2, 32-many+read, many-read, true)
			b.ends(many, false)
			b.ends(many+2, false)
			b.ends(many+1, true)
			b.puts(many+1, "x", 0)
			b.reads(99, letters[read:many], unless(many-read, api.ErrClosed))
			b.is(many+2, 32, 0, true)
			b.ends(many+1, true)
			b.ends(many+2, false)
		}
	}
}

// The edge itself may be the end's number; it goes on by what is read.
func TestEndAtTheEdge(t *testing.T) {
	for read := range 33 {
		b := came(t, 32, read)
		b.ends(34+read, false)
		b.ends(33+read, true)
		b.ends(34+read, false)
		b.puts(33, letters, read)
		b.is(34+read, 0, 32, true)
	}
}

// It isn't told by one that may not be: another one may be told behind it.
func TestEndThatMayNotBe(t *testing.T) {
	for _, dsn := range edges {
		b := came(t, 10, 2)
		b.puts(14, "n", 1)
		if dsn >= 15 && dsn <= 35 {
			continue
		}
		b.ends(dsn, false)
		b.is(11, 24, 8, false)
		b.ends(15, true)
		b.ends(dsn, false)
		b.is(11, 24, 8, false)
		b.puts(11, letters, 3)
		b.is(16, 20, 12, true)
		b.ends(dsn, false)
		b.is(16, 20, 12, true)
	}
}

// Not behind all data that came: only the last one of those counts, whatever is missing ahead of it.
func TestEndBehindAllThatCame(t *testing.T) {
	for last := 2; last <= 32; last++ {
		b := newBoth(t)
		b.puts(last, "z", 1)
		for dsn := range last + 1 {
			b.ends(dsn, false)
		}
		b.puts(last, "z", 0)
		b.is(1, 32, 0, false)
		b.ends(last+1, true)
		b.is(1, 32, 0, false)
		b.puts(1, letters[:last], last-1)
		b.is(last+2, 32-last, last, true)
		b.reads(99, letters[:last-1]+"z", api.OK)
	}
}

// P16.2, Ended, Ack

// The end is come up to when the last datum that is missing comes, not ahead of that.
func TestEnded(t *testing.T) {
	b := newBoth(t)
	b.ends(6, true)
	b.is(1, 32, 0, false)
	b.puts(5, "e", 1)
	b.is(1, 32, 0, false)
	b.puts(1, "abc", 3)
	b.is(4, 29, 3, false)
	b.reads(2, "ab", api.OK)
	b.is(4, 31, 1, false)
	b.puts(4, "d", 1)
	b.is(7, 29, 3, true)
	b.reads(2, "cd", api.OK)
	b.is(7, 31, 1, true)
	b.reads(2, "e", api.OK)
	b.is(7, 32, 0, true)
	b.reads(2, "", api.ErrClosed)
	b.is(7, 32, 0, true)
}

// P16.3

// The first ones that weren't read, at most so many; of most below 0 none, and no error.
func TestRead(t *testing.T) {
	for many := 1; many < 33; many++ {
		for most := -3; most < 36; most++ {
			b := came(t, many, 0)
			b.put(many+2, []byte("x"))
			n := min(max(most, 0), many)
			b.reads(most, letters[:n], api.OK)
			b.is(many+1, 32-many+n, many-n, false)
			if n == many {
				b.reads(most, "", api.ErrWait)
				continue
			}
			b.reads(99, letters[n:many], api.OK)
			b.reads(most, "", api.ErrWait)
		}
	}
}

func TestReadOfNumbersOfAllSorts(t *testing.T) {
	for _, most := range edges {
		b := came(t, 20, 5)
		n := min(max(most, 0), 15)
		b.reads(most, letters[5:5+n], api.OK)
		b.reads(15, letters[5+n:20], unless(15-n, api.ErrWait))
		b.reads(most, "", api.ErrWait)
		b.ends(21, true)
		b.reads(most, "", api.ErrClosed)
	}
}

// What waits behind a gap isn't read, whatever the end is.
func TestReadUpToAGap(t *testing.T) {
	b := came(t, 3, 0)
	b.puts(5, "ef", 2)
	b.ends(7, true)
	b.reads(9, "abc", api.OK)
	for _, most := range edges {
		b.reads(most, "", api.ErrWait)
	}
	b.puts(4, "d", 1)
	b.reads(0, "", api.OK)
	b.reads(-1, "", api.OK)
	b.reads(9, "def", api.OK)
	for _, most := range edges {
		b.reads(most, "", api.ErrClosed)
	}
}

// P16.4

// What was put first under a number stays, whether it is next, ahead, or was read already.
func TestFirstPutStays(t *testing.T) {
	b := newBoth(t)
	b.puts(1, "ab", 2)
	b.puts(1, "AB", 0)
	b.puts(4, "d", 1)
	b.puts(3, "CDE", 2)
	b.puts(1, "12345", 0)
	b.reads(3, "abC", api.OK)
	b.puts(1, "12345F", 1)
	b.puts(4, "XYZ", 0)
	b.reads(9, "dEF", api.OK)
	b.puts(1, "123456", 0)
	b.reads(9, "", api.ErrWait)
}

// What was refused may come later, and as something else.
func TestRefusedMayCome(t *testing.T) {
	b := newBoth(t)
	b.puts(32, "xyz", 1)
	b.puts(33, "?", 0)
	b.puts(1, letters[:31], 31)
	b.reads(2, "ab", api.OK)
	b.puts(32, "XYZ!", 2)
	b.reads(99, letters[2:31]+"xYZ", api.OK)
}

// P16.3, R1, a receiver that is nil

func TestNil(t *testing.T) {
	var r *drecv.Recv
	for _, n := range edges {
		for _, data := range [][]byte{nil, {}, []byte("abc"), make([]byte, 65)} {
			if m := r.Put(n, data); m != 0 {
				t.Error(n, m)
			}
		}
		if r.End(n) {
			t.Error(n)
		}
		if data, e := r.Read(n); len(data) != 0 || e != api.ErrNil {
			t.Error(n, data, e)
		}
	}
	if r.Ack() != 0 || r.Win() != 0 || r.Ready() != 0 || r.Ended() {
		t.Error(r.Ack(), r.Win(), r.Ready(), r.Ended())
	}
}

// All of it

func TestAllSorts(t *testing.T) {
	for seed := range 1500 {
		d, b := dice(seed), newBoth(t)
		for range 150 {
			b.something(&d)
		}
		b.rest()
		if t.Failed() {
			t.Fatal(seed)
		}
	}
}
