package sha_test

import (
	"bytes"
	"crypto/sha256"
	"encoding/hex"
	"strings"
	"testing"

	"ferrybridge/sha"
)

// edges are lengths at which a block, or the room for what ends it, is just full, and those beside them.
var edges = []int{0, 1, 2, 3, 4, 31, 32, 54, 55, 56, 57, 62, 63, 64, 65, 66, 118, 119, 120, 121, 127, 128, 129, 183, 184, 191, 192, 193, 247, 248, 255, 256, 257}

// mixed is so many bytes of all sorts, the same ones each time.
func mixed(long int) []byte {
	b := make([]byte, long)
	n := uint32(long) + 1
	for i := range b {
		n = n*1664525 + 1013904223
		b[i] = byte(n >> 24)
	}
	return b
}

// guarded is a slice with spare room behind it; what stands in both is known.
type guarded struct{ given, whole, was []byte }

func guard(b []byte, spare string) guarded {
	whole := append(bytes.Clone(b), spare...)
	return guarded{given: whole[:len(b)], whole: whole, was: bytes.Clone(whole)}
}

func (g guarded) check(t *testing.T, when string) {
	t.Helper()
	if !bytes.Equal(g.whole, g.was) {
		t.Errorf("%s: %x became %x", when, g.was, g.whole)
	}
}

// P3.1

// The digests are those of the examples that go with FIPS 180-4, and of some other texts that are well known.
func TestOfKnown(t *testing.T) {
	for _, c := range []struct{ text, want string }{
		{"", "e3b0c44298fc1c149afbf4c8996fb92427ae41e4649b934ca495991b7852b855"},
		{"a", "ca978112ca1bbdcafac231b39a23dc4da786eff8147c4e72b9807785afee48bb"},
		{"abc", "ba7816bf8f01cfea414140de5dae2223b00361a396177a9cb410ff61f20015ad"},
		{"\xbd", "68325720aabd7c82f30f554b313d0570c95accbb7dc4b5aae11204c08ffe732b"},
		{"\xc9\x8c\x8e\x55", "7abc22c0ae5af26ce93dbb94433a0e0b2e119d014f8e7f65bd56c61ccccd9504"},
		{"message digest", "f7846f55cf23e14eebeab5b4e1550cad5b509e3348fbc4efa3a1413d393cb650"},
		{"abcdefghijklmnopqrstuvwxyz", "71c480df93d6ae2f1efad1447c66c9525e316218cf51fc8d9ed832f2daf18b73"},
		{"abcdbcdecdefdefgefghfghighijhijkijkljklmklmnlmnomnopnopq", "248d6a61d20638b8e5c026930c3e6039a33ce45964ff2167f6ecedd419db06c1"},
		{"abcdefghbcdefghicdefghijdefghijkefghijklfghijklmghijklmnhijklmnoijklmnopjklmnopqklmnopqrlmnopqrsmnopqrstnopqrstu", "cf5b16a778af8380036ce59e7b0492370b249b11e8f07a51afac45037afee9d1"},
		{strings.Repeat("\x00", 55), "02779466cdec163811d078815c633f21901413081449002f24aa3e80f0b88ef7"},
		{strings.Repeat("\x00", 56), "d4817aa5497628e7c77e6b606107042bbba3130888c5f47a375e6179be789fbb"},
		{strings.Repeat("\x00", 57), "65a16cb7861335d5ace3c60718b5052e44660726da4cd13bb745381b235a1785"},
		{strings.Repeat("\x00", 64), "f5a5fd42d16a20302798ef6ed309979b43003d2320d9f0e8ea9831a92759fb4b"},
		{strings.Repeat("\x00", 1000), "541b3e9daa09b20bf85fa273e5cbd3e80185aa4ec298e765db87742b70138a53"},
		{strings.Repeat("A", 1000), "c2e686823489ced2017f6059b8b239318b6364f6dcd835d0a519105a1eadd6e4"},
		{strings.Repeat("a", 1000), "41edece42d63e8d9bf515a9ba6932e1c20cbc9f5a5d134645adb5db1b9737ea3"},
		{strings.Repeat("a", 1000000), "cdc76e5c9914fb9281a1c7e284d73e67f1809a48a497200e046d39ccc7112cd0"},
	} {
		if d := sha.Of([]byte(c.text)); hex.EncodeToString(d[:]) != c.want {
			t.Errorf("Of %d bytes, %.16q: %x, not %s", len(c.text), c.text, d, c.want)
		}
	}
}

func TestOfEachLength(t *testing.T) {
	for long := range 600 {
		for _, b := range [][]byte{mixed(long), make([]byte, long), bytes.Repeat([]byte{0xff}, long), bytes.Repeat([]byte{0x80}, long)} {
			if got, want := sha.Of(b), sha256.Sum256(b); got != want {
				t.Errorf("Of %d bytes: %x, not %x", long, got, want)
			}
		}
	}
}

// The length is told in bits, in as many bytes as that needs.
func TestOfLongTexts(t *testing.T) {
	for _, long := range []int{4095, 4096, 8191, 8192, 8193, 65535, 65536, 1<<21 - 1, 1 << 21, 1<<21 + 1} {
		b := mixed(long)
		if got, want := sha.Of(b), sha256.Sum256(b); got != want {
			t.Errorf("Of %d bytes: %x, not %x", long, got, want)
		}
	}
}

// Each bit of a text counts, where it stands in a block.
func TestOfEachBit(t *testing.T) {
	b := make([]byte, 130)
	for bit := range 8 * len(b) {
		b[bit/8] ^= 1 << (bit % 8)
		if got, want := sha.Of(b), sha256.Sum256(b); got != want {
			t.Errorf("bit %d: %x, not %x", bit, got, want)
		}
		b[bit/8] = 0
	}
}

func TestOfNothing(t *testing.T) {
	want := sha256.Sum256(nil)
	if got := sha.Of(); got != want {
		t.Errorf("no pieces: %x", got)
	}
	for i, l := range [][][]byte{nil, {}, {nil}, {{}}, {nil, nil}, {nil, {}, nil}, {{}, {}}} {
		if got := sha.Of(l...); got != want {
			t.Errorf("%d: %x", i, got)
		}
	}
}

// Where a text is cut, once or twice, makes no difference.
func TestOfPieces(t *testing.T) {
	for _, long := range edges {
		b := mixed(long)
		want := sha256.Sum256(b)
		for i := range long + 1 {
			if got := sha.Of(b[:i], b[i:]); got != want {
				t.Errorf("%d bytes, cut at %d: %x, not %x", long, i, got, want)
			}
			for j := i; j <= long; j += 1 + long/16 {
				if got := sha.Of(b[:i], b[i:j], b[j:]); got != want {
					t.Errorf("%d bytes, cut at %d and %d: %x, not %x", long, i, j, got, want)
				}
			}
		}
	}
}

// pieces cuts b into pieces of so many bytes, the last one aside, with nothing ahead of, between and behind them.
func pieces(b []byte, long int) [][]byte {
	l := [][]byte{nil}
	for len(b) > long {
		l = append(l, b[:long], nil, []byte{})
		b = b[long:]
	}
	return append(l, b, []byte{}, nil)
}

func TestOfManyPieces(t *testing.T) {
	for _, whole := range append([]int{1000, 4097}, edges...) {
		b := mixed(whole)
		want := sha256.Sum256(b)
		for _, long := range []int{1, 2, 3, 5, 7, 8, 55, 56, 63, 64, 65, 128} {
			if got := sha.Of(pieces(b, long)...); got != want {
				t.Errorf("%d bytes, by %d: %x, not %x", whole, long, got, want)
			}
		}
	}
}

func TestOfPiecesHangsOnTheirOrder(t *testing.T) {
	a, b := []byte("ab"), []byte("c")
	if sha.Of(a, b) != sha256.Sum256([]byte("abc")) || sha.Of(b, a) != sha256.Sum256([]byte("cab")) {
		t.Error("pieces don't stand one behind the other")
	}
	if sha.Of(a, a) != sha256.Sum256([]byte("abab")) || sha.Of(a, a[1:], a[:1]) != sha256.Sum256([]byte("abba")) {
		t.Error("pieces that share memory don't each count")
	}
}

// R4

func TestGivenIsNotChanged(t *testing.T) {
	for _, long := range edges {
		// The spare room is wide enough for all that ends a text, and for a block beside.
		g, h := guard(mixed(long), strings.Repeat("spare room", 20)), guard([]byte("behind"), strings.Repeat("spare room", 20))
		sha.Of(g.given)
		g.check(t, "alone")
		sha.Of(g.given, h.given, g.given)
		g.check(t, "the first piece")
		h.check(t, "the second piece")
	}
}

func TestListOfPiecesIsNotChanged(t *testing.T) {
	for long := range 5 {
		whole := [][]byte{[]byte("abc"), nil, {}, []byte("de"), []byte("spare"), []byte("room"), nil}
		sha.Of(whole[:long]...)
		if string(whole[0]) != "abc" || whole[1] != nil || whole[2] == nil || len(whole[2]) != 0 || string(whole[3]) != "de" ||
			string(whole[4]) != "spare" || string(whole[5]) != "room" || whole[6] != nil {
			t.Errorf("of %d pieces: the list became %q", long, whole)
		}
	}
}

func TestGivenIsNotKept(t *testing.T) {
	b := mixed(100)
	d := sha.Of(b)
	was := d
	clear(b)
	if d != was || sha.Of(b) != sha256.Sum256(make([]byte, 100)) || sha.Of(mixed(100)) != was {
		t.Error("what was handed in earlier makes a difference")
	}
}

// R1, R5

// Asked again the call answers likewise, whatever was asked between, and whatever stands in the spare room.
func TestSameArgumentsSameAnswers(t *testing.T) {
	for _, long := range edges {
		b := mixed(long)
		want := sha.Of(b)
		sha.Of(mixed(long+1), b)
		sha.Of()
		for _, spare := range []string{"", "\x00", "\x80", strings.Repeat("\xff", 200)} {
			g := guard(b, spare)
			if got := sha.Of(g.given); got != want {
				t.Errorf("Of %d bytes, %d behind: %x, not %x", long, len(spare), got, want)
			}
		}
	}
}
