package sum_test

import (
	"bytes"
	"math/big"
	"testing"

	"ferrybridge/sum"
)

// texts are bytes of several lengths, even and odd, at the edges of what is added again.
func texts() [][]byte {
	l := [][]byte{
		nil, {}, {0}, {1}, {0x12}, {0xff}, {0, 0}, {0, 1}, {1, 0}, {0xff, 0xff}, {0xff, 0xfe}, {0xfe, 0xff},
		{0, 0, 0}, {1, 2, 3}, {0xff, 0xff, 0}, {0xff, 0xff, 0xff}, {0x80, 0, 0x80}, {0xff, 0, 0, 0xff},
		{0x80, 0, 0x80, 0}, {0x80, 0, 0x7f, 0xff}, {0xff, 0xff, 0, 1}, {0xff, 0xff, 0xff, 0xff}, {0, 0, 0, 0, 0},
		{0, 1, 0xf2, 3, 0xf4, 0xf5, 0xf6, 0xf7}, []byte("what do ya want for nothing?"), []byte("abcdefghijklm"),
		bytes.Repeat([]byte{0xff}, 255), bytes.Repeat([]byte{0xff}, 256), make([]byte, 257), twiceOver(), thriceOver(),
	}
	for long := range 40 {
		l = append(l, mixed(long))
	}
	return append(l, mixed(1000), mixed(4097))
}

// mixed is so many bytes of all sorts, the same ones each time.
func mixed(long int) []byte {
	b := make([]byte, long)
	n := uint32(long) + 1
	for i := range b {
		n = n*1664525 + 1013904223
		b[i] = byte(n >> 24)
	}
	return b
}

// twiceOver adds up to 1ffff: what goes beyond 16 bits does so again when it is added again.
func twiceOver() []byte {
	return []byte{0xff, 0xff, 0xff, 0xff, 0, 1}
}

// thriceOver adds up to 10000ffff, then to 1ffff, then to 10000: it goes beyond 16 bits three times, and beyond 32 bits once.
func thriceOver() []byte {
	return append(bytes.Repeat([]byte{0xff, 0xff}, 65538), 0, 1)
}

// reckoned tells the sum by another way than the program's: 65536 leaves 1 when divided by 65535, so all bytes as one great number leave what their numbers of 16 bits leave together.
func reckoned(b []byte) uint16 {
	whole := bytes.Clone(b)
	if len(b)%2 == 1 {
		whole = append(whole, 0)
	}
	n := new(big.Int).SetBytes(whole)
	if n.Sign() == 0 {
		return 0xffff
	}
	left := new(big.Int).Mod(n, big.NewInt(0xffff)).Uint64()
	if left == 0 {
		return 0
	}
	return uint16(0xffff - left)
}

// guarded is a slice with spare room behind it; what stands in both is known.
type guarded struct{ given, whole, was []byte }

func guard(b []byte, spare string) guarded {
	whole := append(bytes.Clone(b), spare...)
	return guarded{given: whole[:len(b)], whole: whole, was: bytes.Clone(whole)}
}

func (g guarded) check(t *testing.T, when string) {
	t.Helper()
	if !bytes.Equal(g.whole, g.was) {
		t.Errorf("%s: %x became %x", when, g.was, g.whole)
	}
}

// scribble writes over all of b, spare room included.
func scribble(b []byte) {
	b = b[:cap(b)]
	for i := range b {
		b[i] ^= 0xff
	}
}

// short tells the first ones of many bytes, for what a test says.
func short(b []byte) []byte {
	return b[:min(len(b), 16)]
}

// P2.1, Of

func TestOfIsAsWritten(t *testing.T) {
	for _, c := range []struct {
		b    string
		want uint16
	}{
		{"", 0xffff},
		{"\x00", 0xffff},
		{"\x00\x00", 0xffff},
		{"\x00\x00\x00", 0xffff},
		{"\x12", 0xedff},
		{"\xff", 0x00ff},
		{"\x00\x01", 0xfffe},
		{"\x01\x00", 0xfeff},
		{"\x12\x34", 0xedcb},
		{"\xff\xff", 0},
		{"\xff\xff\x00\x00", 0},
		{"\xff\xff\xff\xff", 0},
		{"\x80\x00\x7f\xff", 0},
		{"\x80\x00\x80\x00", 0xfffe},
		{"\xff\xff\x00\x01", 0xfffe},
		{"\xff\xff\x00\x02", 0xfffd},
		{"\xff\xfe\x00\x01", 0},
		{"\x01\x02\x03", 0xfbfd},
		{"\xff\xff\x01", 0xfeff},
		{"\x00\x01\xf2\x03\xf4\xf5\xf6\xf7", 0x220d},
	} {
		if got := sum.Of([]byte(c.b)); got != c.want {
			t.Errorf("Of(%x): %04x, not %04x", c.b, got, c.want)
		}
	}
}

func TestOfIsAsReckoned(t *testing.T) {
	for _, b := range texts() {
		if got, want := sum.Of(b), reckoned(b); got != want {
			t.Errorf("Of %d bytes, %x..: %04x, not %04x", len(b), short(b), got, want)
		}
	}
}

func TestOfEachNumber(t *testing.T) {
	for n := range 1 << 16 {
		b := []byte{byte(n >> 8), byte(n)}
		if got := sum.Of(b); got != uint16(0xffff-n) {
			t.Errorf("Of(%x): %04x", b, got)
		}
	}
}

// What goes beyond is added again till nothing does: where once is enough, and where it isn't.
func TestOfWhatGoesBeyond(t *testing.T) {
	for _, c := range []struct {
		when string
		b    []byte
		want uint16
	}{
		{"not", []byte{0x7f, 0xff, 0x80, 0}, 0},
		{"once", []byte{0xff, 0xff, 0xff, 0xff, 0, 0}, 0},
		{"once, to 1", []byte{0xff, 0xff, 0, 1}, 0xfffe},
		{"twice", twiceOver(), 0xfffe},
		{"thrice", thriceOver(), 0xfffe},
	} {
		if got := sum.Of(c.b); got != c.want {
			t.Errorf("%s: %04x, not %04x", c.when, got, c.want)
		}
	}
	if got := sum.Of([]byte{0xff, 0xff}, []byte{0xff}, []byte{0xff, 0}, []byte{1}); got != 0xfffe {
		t.Errorf("twice, by pieces: %04x", got)
	}
}

func TestOfLowNumbersThatGoBeyond(t *testing.T) {
	// 257 times ff is ffff, at the bottom; once more goes beyond, by ff.
	low := bytes.Repeat([]byte{0, 0xff}, 257)
	if got := sum.Of(low); got != 0 {
		t.Errorf("%04x", got)
	}
	if got := sum.Of(low, []byte{0, 0xff}); got != 0xff00 {
		t.Errorf("%04x", got)
	}
}

func TestOfNothing(t *testing.T) {
	for i, l := range [][][]byte{nil, {}, {nil}, {{}}, {nil, {}, nil}, {{}, {}}} {
		if got := sum.Of(l...); got != 0xffff {
			t.Errorf("%d: %04x", i, got)
		}
	}
	if got := sum.Of(); got != 0xffff {
		t.Errorf("no pieces: %04x", got)
	}
}

// Where a text is cut, once or twice, makes no difference, also where a number begins in one piece and ends in another one.
func TestOfPieces(t *testing.T) {
	for _, b := range texts() {
		if len(b) > 40 {
			continue
		}
		want := reckoned(b)
		for i := range len(b) + 1 {
			if got := sum.Of(b[:i], b[i:]); got != want {
				t.Errorf("Of(%x, %x): %04x, not %04x", b[:i], b[i:], got, want)
			}
			for j := i; j <= len(b); j++ {
				if got := sum.Of(b[:i], b[i:j], b[j:]); got != want {
					t.Errorf("Of(%x, %x, %x): %04x, not %04x", b[:i], b[i:j], b[j:], got, want)
				}
			}
		}
	}
}

// pieces cuts b into pieces of so many bytes, the last one aside, with nothing ahead of, between and behind them.
func pieces(b []byte, long int) [][]byte {
	l := [][]byte{nil}
	for len(b) > long {
		l = append(l, b[:long], nil, []byte{})
		b = b[long:]
	}
	return append(l, b, []byte{}, nil)
}

func TestOfManyPieces(t *testing.T) {
	for _, b := range texts() {
		want := reckoned(b)
		for long := 1; long <= 9; long++ {
			if got := sum.Of(pieces(b, long)...); got != want {
				t.Errorf("Of %d bytes, %x.., by %d: %04x, not %04x", len(b), short(b), long, got, want)
			}
		}
	}
}

func TestOfNumberThroughEmptyPieces(t *testing.T) {
	a, b, c := []byte{0x12}, []byte{0x34, 0x56}, []byte{0x78}
	for i, l := range [][][]byte{{a, b, c}, {a, nil, b, c}, {nil, a, {}, nil, b, {}, c}, {a, b, nil, nil, c, nil}} {
		if got := sum.Of(l...); got != 0x9753 {
			t.Errorf("%d: %04x", i, got)
		}
	}
	if sum.Of(a, c) != 0xed87 || sum.Of(c, a) != 0x87ed || sum.Of(a, a) != 0xeded {
		t.Error("odd pieces stand one behind the other, without a 0 between")
	}
	if sum.Of(b, a) != 0xb9a9 || sum.Of(a, b) != 0x97cb {
		t.Error("the last one that is alone has a 0 behind it, none ahead")
	}
}

// P2.1, Put

func TestPutIsAsWritten(t *testing.T) {
	for _, c := range []struct{ b, want string }{
		{"", "\xff\xff"},
		{"\x00", "\x00\x00\xff\xff"},
		{"\x12", "\x12\x00\xed\xff"},
		{"\xff", "\xff\x00\x00\xff"},
		{"\x00\x00", "\x00\x00\xff\xff"},
		{"\xff\xff", "\xff\xff\x00\x00"},
		{"\x12\x34", "\x12\x34\xed\xcb"},
		{"\x01\x02\x03", "\x01\x02\x03\x00\xfb\xfd"},
		{"\xff\xff\x00\x01", "\xff\xff\x00\x01\xff\xfe"},
		{"\x00\x01\xf2\x03\xf4\xf5\xf6\xf7", "\x00\x01\xf2\x03\xf4\xf5\xf6\xf7\x22\x0d"},
	} {
		if got := sum.Put([]byte(c.b)); string(got) != c.want {
			t.Errorf("Put(%x): %x, not %x", c.b, got, c.want)
		}
	}
	if got := sum.Put(nil); string(got) != "\xff\xff" {
		t.Errorf("Put(nil): %x", got)
	}
}

func TestPutIsAsReckoned(t *testing.T) {
	for _, b := range texts() {
		want := bytes.Clone(b)
		if len(b)%2 == 1 {
			want = append(want, 0)
		}
		n := reckoned(b)
		want = append(want, byte(n>>8), byte(n))
		if got := sum.Put(b); !bytes.Equal(got, want) {
			t.Errorf("Put of %d bytes, %x..: %d, %x..", len(b), short(b), len(got), short(got))
		}
	}
}

// P2.1, Good

func TestGood(t *testing.T) {
	for _, c := range []struct {
		b    string
		want bool
	}{
		{"\xff\xff", true},
		{"\xff\xff\x00\x00", true},
		{"\x00\x00\xff\xff", true},
		{"\xff\xff\xff\xff", true},
		{"\x12\x34\xed\xcb", true},
		{"\xed\xcb\x12\x34", true},
		{"\x80\x00\x7f\xff", true},
		{"\x01\x02\x03\x00\xfb\xfd", true},
		{"\xff\xff\xff\xff\x00\x01\xff\xfe", true},
		{"", false},
		{"\x00\x00", false},
		{"\xff\xfe", false},
		{"\x7f\xff", false},
		{"\xff\x00", false},
		{"\x00\xff", false},
		{"\x00\x00\x00\x00", false},
		{"\x12\x34\xcb\xed", false},
		{"\x34\x12\xed\xcb", false},
		{"\x80\x00\x80\x00", false},
		{"\xff\xff\x00\x01", false},
	} {
		if sum.Good([]byte(c.b)) != c.want {
			t.Errorf("Good(%x): not %v", c.b, c.want)
		}
	}
	if sum.Good(nil) {
		t.Error("nil is good")
	}
}

func TestGoodOfAnOddLength(t *testing.T) {
	for n := range 256 {
		if sum.Good([]byte{byte(n)}) {
			t.Errorf("%02x is good", n)
		}
	}
	for _, b := range []string{"\xff\xff\x00", "\xff\x00\xff", "\x00\xff\xff", "\xff\xff\xff", "\xfe\xff\x01", "\xff\xff\x00\x00\x00", "\x12\x34\xed\xcb\x00"} {
		if sum.Good([]byte(b)) {
			t.Errorf("%x is good", b)
		}
	}
}

// Of all of two bytes one is good; of each other number one that goes with it.
func TestGoodOfEachNumber(t *testing.T) {
	for n := range 1 << 16 {
		h, l := byte(n>>8), byte(n)
		if sum.Good([]byte{h, l}) != (n == 0xffff) {
			t.Errorf("Good of %04x", n)
		}
		if !sum.Good([]byte{h, l, ^h, ^l}) {
			t.Errorf("%04x isn't good with what it lacks", n)
		}
		// ff00 and twice a byte: that is even, so never ffff.
		if sum.Good([]byte{h, l, ^h, l}) {
			t.Errorf("%04x is good with what it lacks at the top alone", n)
		}
	}
}

func TestGoodIsAsReckoned(t *testing.T) {
	for _, b := range texts() {
		want := len(b) >= 2 && len(b)%2 == 0 && reckoned(b) == 0
		if sum.Good(b) != want {
			t.Errorf("Good of %d bytes, %x..: not %v", len(b), short(b), want)
		}
	}
}

// P2.2

func TestPutIsGood(t *testing.T) {
	for _, b := range texts() {
		p := sum.Put(b)
		if !sum.Good(p) {
			t.Errorf("%d bytes, %x..: not good", len(b), short(p))
		}
		if q := sum.Put(p); !sum.Good(q) || !bytes.Equal(q, append(bytes.Clone(p), 0, 0)) {
			t.Errorf("%d bytes, %x.., put twice: not good", len(b), short(q))
		}
		if sum.Good(p[:len(p)-1]) || sum.Good(append(bytes.Clone(p), 0)) {
			t.Errorf("%d bytes, %x..: good with one less or more", len(b), short(p))
		}
	}
}

// changed changes each of the bytes at these places to each other value: none of that may be good.
func changed(t *testing.T, b []byte, places ...int) {
	t.Helper()
	if !sum.Good(b) {
		t.Errorf("%d bytes, %x..: not good at first", len(b), short(b))
	}
	c := bytes.Clone(b)
	for _, i := range places {
		for by := 1; by < 256; by++ {
			c[i] = b[i] + byte(by)
			if sum.Good(c) {
				t.Errorf("%d bytes, %x..: good with %02x at %d", len(b), short(b), c[i], i)
			}
		}
		c[i] = b[i]
	}
}

func TestOneByteChanged(t *testing.T) {
	for _, b := range texts() {
		if len(b) > 300 {
			continue
		}
		p := sum.Put(b)
		for i := range p {
			changed(t, p, i)
		}
	}
	long := sum.Put(thriceOver())
	changed(t, long, 0, 65537, len(long)-4, len(long)-3, len(long)-2, len(long)-1)
}

// What is good needn't have been put.
func TestOneByteChangedOfWhatIsGoodOtherwise(t *testing.T) {
	for _, b := range []string{
		"\xff\xff\xff\xff", "\x00\x00\xff\xff\x00\x00", "\xed\xcb\x12\x34", "\x80\x00\x7f\xff", "\x00\xff\xff\x00",
		"\xff\xff\xff\xff\xff\xff\xff\xff", "\x22\x0d\x00\x01\xf2\x03\xf4\xf5\xf6\xf7", "\x55\x55\x55\x55\x55\x55",
	} {
		for i := range b {
			changed(t, []byte(b), i)
		}
	}
}

// R4

func TestGivenIsNotChanged(t *testing.T) {
	for _, b := range texts() {
		g, h := guard(b, "spare room"), guard([]byte("odd"), "spare room")
		sum.Of(g.given)
		g.check(t, "Of")
		sum.Of(g.given, h.given, g.given)
		g.check(t, "Of, the first piece")
		h.check(t, "Of, the second piece")
		sum.Put(g.given)
		g.check(t, "Put")
		sum.Good(g.given)
		g.check(t, "Good")
		p := guard(sum.Put(b), "spare room")
		sum.Good(p.given)
		p.check(t, "Good of what is good")
	}
}

func TestListOfPiecesIsNotChanged(t *testing.T) {
	g, h := guard([]byte("abc"), "spare"), guard([]byte("de"), "spare")
	whole := [][]byte{g.given, nil, h.given, []byte("spare")}
	sum.Of(whole[:3]...)
	g.check(t, "the first piece")
	h.check(t, "the last piece")
	if string(whole[0]) != "abc" || whole[1] != nil || string(whole[2]) != "de" || string(whole[3]) != "spare" {
		t.Errorf("the list became %q", whole)
	}
}

func TestPutIsNewMemory(t *testing.T) {
	for _, b := range texts() {
		g := guard(b, "spare room")
		kept := sum.Put(g.given)
		was := bytes.Clone(kept)
		scribble(sum.Put(g.given))
		g.check(t, "the answer written over")
		if !bytes.Equal(kept, was) {
			t.Errorf("%d bytes: an answer shares with an earlier one", len(b))
		}
		scribble(g.given)
		if !bytes.Equal(kept, was) {
			t.Errorf("%d bytes: an answer changes with what was handed in", len(b))
		}
		whole := bytes.Clone(g.whole)
		scribble(kept)
		if !bytes.Equal(g.whole, whole) {
			t.Errorf("%d bytes: what was handed in changes with an answer", len(b))
		}
	}
}

// R1, R5

// Asked again each call answers likewise, whatever was asked between, and whatever stands in the spare room.
func TestSameArgumentsSameAnswers(t *testing.T) {
	for _, b := range texts() {
		n, p, good := sum.Of(b), sum.Put(b), sum.Good(b)
		sum.Of(mixed(7), p)
		sum.Put(mixed(9))
		sum.Good(sum.Put(nil))
		for _, spare := range []string{"\x00\x00\x00", "\xff\xff\xff", "\x01\xed\xcb"} {
			g := guard(b, spare)
			if m := sum.Of(g.given); m != n {
				t.Errorf("Of %d bytes: %04x, %04x", len(b), n, m)
			}
			if q := sum.Put(g.given); !bytes.Equal(p, q) {
				t.Errorf("Put of %d bytes: %x.., %x..", len(b), short(p), short(q))
			}
			if sum.Good(g.given) != good {
				t.Errorf("Good of %d bytes: not %v", len(b), good)
			}
		}
	}
}

// Spare room is no byte of b, though with it b would be good, or would be no more.
func TestSpareRoomIsNotGone(t *testing.T) {
	whole := []byte("\x12\x34\xed\xcb\x56\x78")
	if sum.Good(whole[:2]) || sum.Good(whole[:3]) || !sum.Good(whole[:4]) || sum.Good(whole[:5]) || sum.Good(whole) {
		t.Error("Good goes beyond what is handed in")
	}
	if sum.Of(whole[:2]) != 0xedcb || sum.Of(whole[:1], whole[:1]) != 0xeded {
		t.Error("Of goes beyond what is handed in")
	}
	if p := sum.Put(whole[:3]); string(p) != "\x12\x34\xed\x00\x00\xcb" {
		t.Errorf("Put: %x", p)
	}
}
