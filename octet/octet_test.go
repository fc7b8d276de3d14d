package octet_test

import (
	"bytes"
	"encoding/binary"
	"math"
	"testing"

	"ferrybridge/api"
	"ferrybridge/octet"
)

// numbers are at the edges of each width.
var numbers = []uint64{0, 1, 127, 128, 255, 256, 300, 65535, 65536, 1<<24 - 1, 1 << 24, 1<<32 - 1, 1 << 32, 1<<40 + 7, 1<<48 - 1, 1<<56 + 3, 1 << 63, 0x0102030405060708, 0xf1e2d3c4b5a69788, 1<<64 - 1}

// widths are those that may be, and some on both sides of them, each with what it counts as.
var widths = []struct{ told, held int }{
	{math.MinInt, 1}, {-256, 1}, {-8, 1}, {-1, 1}, {0, 1},
	{1, 1}, {2, 2}, {3, 3}, {4, 4}, {5, 5}, {6, 6}, {7, 7}, {8, 8},
	{9, 8}, {16, 8}, {256, 8}, {257, 8}, {math.MaxInt, 8},
}

// beginnings are bytes of several lengths, nil and empty among them.
var beginnings = [][]byte{nil, {}, {0}, {9}, {255, 0}, []byte("abcdefghijkl"), make([]byte, 300)}

// digits tells n in w bytes by another way than the program's.
func digits(n uint64, w int) []byte {
	all := binary.BigEndian.AppendUint64(nil, n)
	return all[8-w:]
}

// guarded is a slice with spare room behind it; what stands in both is known.
type guarded struct{ given, whole, was []byte }

func guard(s string) guarded {
	whole := append([]byte(s), "spare room"...)
	return guarded{given: whole[:len(s)], whole: whole, was: bytes.Clone(whole)}
}

func (g guarded) check(t *testing.T, when string) {
	t.Helper()
	if !bytes.Equal(g.whole, g.was) {
		t.Errorf("%s: %q became %q", when, g.was, g.whole)
	}
}

// scribble writes over all of b, spare room included.
func scribble(b []byte) {
	b = b[:cap(b)]
	for i := range b {
		b[i] ^= 0xff
	}
}

// P1.1

func TestPut(t *testing.T) {
	for _, b := range beginnings {
		for _, n := range numbers {
			for _, w := range widths {
				want := append(bytes.Clone(b), digits(n, w.held)...)
				if got := octet.Put(b, n, w.told); !bytes.Equal(got, want) {
					t.Errorf("Put(%x, %x, %d): %x, not %x", b, n, w.told, got, want)
				}
			}
		}
	}
}

func TestPutOfWords(t *testing.T) {
	for _, c := range []struct {
		n    uint64
		w    int
		want string
	}{
		{300, 2, "\x01\x2c"},
		{300, 1, "\x2c"},
		{300, 0, "\x2c"},
		{300, 3, "\x00\x01\x2c"},
		{0, 4, "\x00\x00\x00\x00"},
		{0x010203, 2, "\x02\x03"},
		{1<<64 - 2, 9, "\xff\xff\xff\xff\xff\xff\xff\xfe"},
	} {
		if got := octet.Put(nil, c.n, c.w); string(got) != c.want {
			t.Errorf("Put(nil, %x, %d): %x", c.n, c.w, got)
		}
	}
}

func TestTake(t *testing.T) {
	for _, behind := range beginnings {
		for _, n := range numbers {
			for _, w := range widths {
				b := append(bytes.Clone(digits(n, w.held)), behind...)
				want := n << (64 - 8*w.held) >> (64 - 8*w.held)
				got, rest, e := octet.Take(b, w.told)
				if got != want || !bytes.Equal(rest, behind) || e != api.OK {
					t.Errorf("Take(%x, %d): %x, %x, %v", b, w.told, got, rest, e)
				}
			}
		}
	}
}

func TestTakeOfTooFew(t *testing.T) {
	full := []byte{0xff, 2, 3, 4, 5, 6, 7, 8}
	for _, w := range widths {
		for long := range w.held {
			n, rest, e := octet.Take(full[:long], w.told)
			if n != 0 || len(rest) != 0 || e != api.ErrEnd {
				t.Errorf("Take of %d bytes, %d wide: %x, %x, %v", long, w.told, n, rest, e)
			}
		}
		n, rest, e := octet.Take(nil, w.told)
		if n != 0 || len(rest) != 0 || e != api.ErrEnd {
			t.Errorf("Take of nil, %d wide: %x, %x, %v", w.told, n, rest, e)
		}
	}
}

func TestPutIsTaken(t *testing.T) {
	var b []byte
	for i, n := range numbers {
		b = octet.Put(b, n, i)
	}
	for i, n := range numbers {
		held := min(max(i, 1), 8)
		got, rest, e := octet.Take(b, i)
		if want := n << (64 - 8*held) >> (64 - 8*held); got != want || e != api.OK {
			t.Fatalf("number %d: %x, %v", i, got, e)
		}
		b = rest
	}
	if len(b) != 0 {
		t.Errorf("%x is left", b)
	}
}

func TestCut(t *testing.T) {
	for _, b := range beginnings {
		for n := range len(b) + 1 {
			first, rest, e := octet.Cut(b, n)
			if !bytes.Equal(first, b[:n]) || !bytes.Equal(rest, b[n:]) || e != api.OK {
				t.Errorf("Cut(%x, %d): %x, %x, %v", b, n, first, rest, e)
			}
		}
	}
}

func TestCutOfWrong(t *testing.T) {
	for _, b := range beginnings {
		for _, c := range []struct {
			n int
			e api.Errno
		}{
			{-1, api.ErrArg}, {-len(b) - 1, api.ErrArg}, {math.MinInt, api.ErrArg},
			{len(b) + 1, api.ErrEnd}, {len(b) + 256, api.ErrEnd}, {math.MaxInt, api.ErrEnd},
		} {
			first, rest, e := octet.Cut(b, c.n)
			if len(first) != 0 || len(rest) != 0 || e != c.e {
				t.Errorf("Cut(%x, %d): %x, %x, %v", b, c.n, first, rest, e)
			}
		}
	}
}

// Spare room is no byte of b: it may be neither cut nor taken.
func TestSpareRoomIsNotGiven(t *testing.T) {
	g := guard("ab")
	if first, rest, e := octet.Cut(g.given, 3); len(first) != 0 || len(rest) != 0 || e != api.ErrEnd {
		t.Errorf("Cut: %x, %x, %v", first, rest, e)
	}
	if n, rest, e := octet.Take(g.given, 3); n != 0 || len(rest) != 0 || e != api.ErrEnd {
		t.Errorf("Take: %x, %x, %v", n, rest, e)
	}
	if _, rest, e := octet.Cut(g.given, 1); string(rest) != "b" || e != api.OK {
		t.Errorf("Cut: %q, %v", rest, e)
	}
	if _, rest, e := octet.Take(g.given, 1); string(rest) != "b" || e != api.OK {
		t.Errorf("Take: %q, %v", rest, e)
	}
}

// P1.2

func TestJoin(t *testing.T) {
	a, b, c := []byte("a"), []byte("bc"), []byte("def")
	for _, x := range []struct {
		l    [][]byte
		want string
	}{
		{nil, ""},
		{[][]byte{}, ""},
		{[][]byte{nil}, ""},
		{[][]byte{{}}, ""},
		{[][]byte{nil, {}, nil}, ""},
		{[][]byte{a}, "a"},
		{[][]byte{c, a}, "defa"},
		{[][]byte{a, c}, "adef"},
		{[][]byte{a, b, c}, "abcdef"},
		{[][]byte{nil, a, {}, b, nil, c, {}}, "abcdef"},
		{[][]byte{b, b, b}, "bcbcbc"},
		{[][]byte{{0}, {0, 0}, {255}}, "\x00\x00\x00\xff"},
	} {
		if got := octet.Join(x.l...); string(got) != x.want {
			t.Errorf("Join(%q): %q", x.l, got)
		}
	}
	if got := octet.Join(); len(got) != 0 {
		t.Errorf("Join of nothing: %q", got)
	}
}

func TestJoinOfMany(t *testing.T) {
	var l [][]byte
	var want []byte
	for i := range 2000 {
		piece := bytes.Repeat([]byte{byte(i)}, i%9)
		l = append(l, piece)
		want = append(want, piece...)
	}
	if got := octet.Join(l...); !bytes.Equal(got, want) {
		t.Errorf("%d bytes, not %d, or others", len(got), len(want))
	}
}

func TestSame(t *testing.T) {
	for _, c := range []struct {
		a, b []byte
		want bool
	}{
		{nil, nil, true},
		{nil, []byte{}, true},
		{[]byte{}, []byte{}, true},
		{[]byte("abc"), []byte("abc"), true},
		{[]byte{0, 255}, []byte{0, 255}, true},
		{make([]byte, 1000), make([]byte, 1000), true},
		{[]byte("abc"), guard("abc").given, true},
		{nil, []byte{0}, false},
		{[]byte{}, []byte{0}, false},
		{[]byte{0}, []byte{0, 0}, false},
		{[]byte("abc"), []byte("abd"), false},
		{[]byte("abc"), []byte("bbc"), false},
		{[]byte("abc"), []byte("acb"), false},
		{[]byte("abc"), []byte("ABC"), false},
		{[]byte("ab"), []byte("abc"), false},
		{[]byte("bc"), []byte("abc"), false},
		{make([]byte, 1000), append(make([]byte, 999), 1), false},
	} {
		if octet.Same(c.a, c.b) != c.want || octet.Same(c.b, c.a) != c.want {
			t.Errorf("Same(%q, %q): not %v", c.a, c.b, c.want)
		}
	}
}

func TestSameOfOneMemory(t *testing.T) {
	b := []byte("abab")
	if !octet.Same(b, b) || !octet.Same(b[:2], b[2:]) || octet.Same(b[:2], b[1:3]) || octet.Same(b, b[:3]) {
		t.Error("parts of one memory are told apart by their bytes alone")
	}
}

// R4

// outcomes are the lists that one call answers.
type outcomes func(b []byte) [][]byte

// calls are all that answer lists, so that R4 and R5 are asked of each of them.
var calls = []struct {
	name string
	do   outcomes
}{
	{"Put", func(b []byte) [][]byte { return [][]byte{octet.Put(b, 0x0102030405060708, 3)} }},
	{"Put in 8", func(b []byte) [][]byte { return [][]byte{octet.Put(b, 0x0102030405060708, 8)} }},
	{"Take", func(b []byte) [][]byte { _, rest, _ := octet.Take(b, 2); return [][]byte{rest} }},
	{"Take of all", func(b []byte) [][]byte { _, rest, _ := octet.Take(b, 8); return [][]byte{rest} }},
	{"Cut", func(b []byte) [][]byte { first, rest, _ := octet.Cut(b, 3); return [][]byte{first, rest} }},
	{"Cut of none", func(b []byte) [][]byte { first, rest, _ := octet.Cut(b, 0); return [][]byte{first, rest} }},
	{"Cut of all", func(b []byte) [][]byte { first, rest, _ := octet.Cut(b, len(b)); return [][]byte{first, rest} }},
	{"Join of one", func(b []byte) [][]byte { return [][]byte{octet.Join(b)} }},
	{"Join of one and nil", func(b []byte) [][]byte { return [][]byte{octet.Join(nil, b, nil)} }},
	{"Join of two", func(b []byte) [][]byte { return [][]byte{octet.Join(b[:3], b[3:])} }},
	{"Join of itself", func(b []byte) [][]byte { return [][]byte{octet.Join(b, b)} }},
}

func TestGivenIsNotChanged(t *testing.T) {
	for _, c := range calls {
		g := guard("abcdefgh")
		c.do(g.given)
		g.check(t, c.name)
	}
	g, h := guard("abc"), guard("abd")
	octet.Same(g.given, h.given)
	g.check(t, "Same, a")
	h.check(t, "Same, b")
	octet.Join(g.given, h.given)
	g.check(t, "Join, the first one")
	h.check(t, "Join, the second one")
	for _, w := range widths {
		octet.Put(g.given, 1<<64-1, w.told)
		octet.Take(g.given, w.told)
		octet.Cut(g.given, w.told)
		g.check(t, "any width")
	}
}

func TestListOfPiecesIsNotChanged(t *testing.T) {
	g, h := guard("abc"), guard("de")
	whole := [][]byte{g.given, nil, h.given, []byte("spare")}
	octet.Join(whole[:3]...)
	g.check(t, "the first piece")
	h.check(t, "the last piece")
	if string(whole[0]) != "abc" || whole[1] != nil || string(whole[2]) != "de" || string(whole[3]) != "spare" {
		t.Errorf("the list became %q", whole)
	}
}

func TestAnswersAreNewMemory(t *testing.T) {
	for _, c := range calls {
		g := guard("abcdefgh")
		kept := c.do(g.given)
		var was [][]byte
		for _, k := range kept {
			was = append(was, bytes.Clone(k))
		}
		for i, answer := range c.do(g.given) {
			scribble(answer)
			g.check(t, c.name+", the answer written over")
			for j, k := range kept {
				if !bytes.Equal(k, was[j]) {
					t.Errorf("%s: answer %d shares with answer %d of an earlier call", c.name, i, j)
				}
			}
		}
		scribble(g.given)
		for j, k := range kept {
			if !bytes.Equal(k, was[j]) {
				t.Errorf("%s: answer %d changes with what was handed in", c.name, j)
			}
		}
	}
}

func TestPartsOfACutShareNothing(t *testing.T) {
	for n := range 7 {
		first, rest, _ := octet.Cut([]byte("abcdef"), n)
		scribble(first)
		if string(rest) != "abcdef"[n:] {
			t.Errorf("Cut at %d: the rest became %q", n, rest)
		}
		first, rest, _ = octet.Cut([]byte("abcdef"), n)
		scribble(rest)
		if string(first) != "abcdef"[:n] {
			t.Errorf("Cut at %d: the first part became %q", n, first)
		}
	}
}

// R1, R5

// Whatever is handed in: no call panics, and asked again it answers likewise.
func TestSameArgumentsSameAnswers(t *testing.T) {
	odd := []int{math.MinInt, math.MinInt32, -9, -1, 0, 1, 2, 7, 8, 9, 64, math.MaxInt32, math.MaxInt}
	for _, b := range beginnings {
		for _, w := range odd {
			if x, y := octet.Put(b, 1<<63+5, w), octet.Put(b, 1<<63+5, w); !bytes.Equal(x, y) {
				t.Errorf("Put: %x, %x", x, y)
			}
			n, x, e := octet.Take(b, w)
			if m, y, f := octet.Take(b, w); n != m || !bytes.Equal(x, y) || e != f {
				t.Errorf("Take: %x, %x, %v; %x, %x, %v", n, x, e, m, y, f)
			}
			p, q, e := octet.Cut(b, w)
			if r, s, f := octet.Cut(b, w); !bytes.Equal(p, r) || !bytes.Equal(q, s) || e != f {
				t.Errorf("Cut: %x, %x, %v; %x, %x, %v", p, q, e, r, s, f)
			}
		}
		for _, c := range beginnings {
			if x, y := octet.Join(b, c), octet.Join(b, c); !bytes.Equal(x, y) {
				t.Errorf("Join: %x, %x", x, y)
			}
			if octet.Same(b, c) != octet.Same(b, c) {
				t.Errorf("Same of %x, %x", b, c)
			}
		}
	}
	for _, c := range calls {
		x := c.do([]byte("abcdefgh"))
		for i, y := range c.do(guard("abcdefgh").given) {
			if !bytes.Equal(x[i], y) {
				t.Errorf("%s: spare room makes %x of %x", c.name, y, x[i])
			}
		}
	}
}
