package hmac_test

import (
	"bytes"
	stdhmac "crypto/hmac"
	"crypto/sha256"
	"encoding/hex"
	"strings"
	"testing"

	"ferrybridge/hmac"
)

// keyEdges are lengths of keys at which one is just filled, or counts as its digest, and those beside and far from them.
var keyEdges = []int{0, 1, 2, 31, 32, 33, 62, 63, 64, 65, 66, 96, 127, 128, 129, 200, 1000}

// textEdges are lengths of texts at which a block, or the room for what ends it, is just full, and those beside them.
var textEdges = []int{0, 1, 2, 31, 32, 54, 55, 56, 63, 64, 65, 119, 120, 127, 128, 129}

// mixed is so many bytes of all sorts, the same ones each time.
func mixed(long int) []byte {
	b := make([]byte, long)
	n := uint32(long) + 1
	for i := range b {
		n = n*1664525 + 1013904223
		b[i] = byte(n >> 24)
	}
	return b
}

// rising is so many bytes, from first on.
func rising(first byte, long int) string {
	b := make([]byte, long)
	for i := range b {
		b[i] = first + byte(i)
	}
	return string(b)
}

// reference tells HMAC by another way than the program's.
func reference(key, text []byte) [32]byte {
	h := stdhmac.New(sha256.New, key)
	h.Write(text)
	return [32]byte(h.Sum(nil))
}

// spare is what stands in spare room: wide enough for a filled key, and for all that ends a text.
var spare = strings.Repeat("spare room", 20)

// guarded is a slice with spare room behind it; what stands in both is known.
type guarded struct{ given, whole, was []byte }

func guard(b []byte) guarded {
	whole := append(bytes.Clone(b), spare...)
	return guarded{given: whole[:len(b)], whole: whole, was: bytes.Clone(whole)}
}

func (g guarded) check(t *testing.T, when string) {
	t.Helper()
	if !bytes.Equal(g.whole, g.was) {
		t.Errorf("%s: %x became %x", when, g.was, g.whole)
	}
}

// P4.1

// The answers are those of RFC 4231 (its fifth one whole), RFC 4868 and the examples that go with FIPS 198, and of two other texts that are well known.
func TestOfKnown(t *testing.T) {
	for _, c := range []struct{ key, text, want string }{
		{strings.Repeat("\x0b", 20), "Hi There", "b0344c61d8db38535ca8afceaf0bf12b881dc200c9833da726e9376c2e32cff7"},
		{"Jefe", "what do ya want for nothing?", "5bdcc146bf60754e6a042426089575c75a003f089d2739839dec58b964ec3843"},
		{strings.Repeat("\xaa", 20), strings.Repeat("\xdd", 50), "773ea91e36800e46854db8ebd09181a72959098b3ef8c122d9635514ced565fe"},
		{rising(1, 25), strings.Repeat("\xcd", 50), "82558a389a443c0ea4cc819899f2083a85f0faa3e578f8077a2e3ff46729665b"},
		{strings.Repeat("\x0c", 20), "Test With Truncation", "a3b6167473100ee06e0c796c2955552bfa6f7c0a6a8aef8b93f860aab0cd20c5"},
		{strings.Repeat("\xaa", 131), "Test Using Larger Than Block-Size Key - Hash Key First", "60e431591ee0b67f0d8a26aacbf5b77f8e0bc6213728c5140546040f0ee37f54"},
		{strings.Repeat("\xaa", 131), "This is a test using a larger than block-size key and a larger than block-size data. The key needs to be hashed before being used by the HMAC algorithm.", "9b09ffa71b942fcb27635fbcd5b0e944bfdc63644f0713938a7f51535c3a35e2"},
		{strings.Repeat("\x0b", 32), "Hi There", "198a607eb44bfbc69903a0f1cf2bbdc5ba0aa3f3d9ae3c1c7a3b1696a0b68cf7"},
		{strings.Repeat("Jefe", 8), "what do ya want for nothing?", "167f928588c5cc2eef8e3093caa0e87c9ff566a14794aa61648d81621a2a40c6"},
		{rising(0, 64), "Sample message for keylen=blocklen", "8bb9a1db9806f20df7f77b82138c7914d174d59e13dc4d0169c9057b133e1d62"},
		{rising(0, 32), "Sample message for keylen<blocklen", "a28cf43130ee696a98f14a37678b56bcfcbdd9e5cf69717fecf5480f0ebdf790"},
		{rising(0, 100), "Sample message for keylen=blocklen", "bdccb6c72ddeadb500ae768386cb38cc41c63dbb0878ddb9c7a38a431b78378d"},
		{"", "", "b613679a0814d9ec772f95d778c35fc5ff1697c493715653c6c712144292c5ad"},
		{"key", "The quick brown fox jumps over the lazy dog", "f7bc83f430538424b13298e6aa6fb143ef4d59a14946175997479dbc2d1a3cd8"},
	} {
		if d := hmac.Of([]byte(c.key), []byte(c.text)); hex.EncodeToString(d[:]) != c.want {
			t.Errorf("Of a key of %d bytes, %.16q: %x, not %s", len(c.key), c.text, d, c.want)
		}
	}
}

// Keys of each length up to beyond two blocks, of all sorts of bytes.
func TestOfEachKey(t *testing.T) {
	for long := range 200 {
		for _, key := range [][]byte{mixed(long), make([]byte, long), bytes.Repeat([]byte{0xff}, long), bytes.Repeat([]byte{0x36}, long), bytes.Repeat([]byte{0x5c}, long)} {
			for _, text := range [][]byte{nil, []byte("text"), mixed(64), mixed(100)} {
				if got, want := hmac.Of(key, text), reference(key, text); got != want {
					t.Errorf("key of %d bytes, text of %d: %x, not %x", long, len(text), got, want)
				}
			}
		}
	}
}

func TestOfEachText(t *testing.T) {
	for _, long := range keyEdges {
		key := mixed(long)
		for whole := range 200 {
			text := mixed(whole)
			if got, want := hmac.Of(key, text), reference(key, text); got != want {
				t.Errorf("key of %d bytes, text of %d: %x, not %x", long, whole, got, want)
			}
		}
	}
}

func TestOfLong(t *testing.T) {
	for _, long := range []int{4096, 65535, 65536, 1<<21 + 1} {
		b := mixed(long)
		if got, want := hmac.Of([]byte("key"), b), reference([]byte("key"), b); got != want {
			t.Errorf("text of %d bytes: %x, not %x", long, got, want)
		}
		if got, want := hmac.Of(b, []byte("text")), reference(b, []byte("text")); got != want {
			t.Errorf("key of %d bytes: %x, not %x", long, got, want)
		}
	}
}

// A key of up to 64 bytes is filled with zeros: one that has some of them already is the same.
func TestKeyIsFilled(t *testing.T) {
	text := []byte("text")
	for _, long := range []int{0, 1, 32, 63, 64} {
		key := mixed(long)
		want := hmac.Of(key, text)
		for zeros := range 64 - long + 1 {
			if hmac.Of(append(bytes.Clone(key), make([]byte, zeros)...), text) != want {
				t.Errorf("key of %d bytes, %d zeros behind: another answer", long, zeros)
			}
		}
		if hmac.Of(append(bytes.Clone(key), make([]byte, 65-long)...), text) == want {
			t.Errorf("key of %d bytes, filled to 65: the same answer", long)
		}
	}
}

// A key of more than 64 bytes counts as its digest, one of 64 doesn't.
func TestLongKeyIsItsDigest(t *testing.T) {
	text := []byte("text")
	for _, long := range []int{63, 64, 65, 66, 128, 1000} {
		key := mixed(long)
		d := sha256.Sum256(key)
		if same := hmac.Of(key, text) == hmac.Of(d[:], text); same != (long > 64) {
			t.Errorf("key of %d bytes, the same answer as of its digest: %v", long, same)
		}
	}
}

// Each bit of a key and of a text counts.
func TestOfEachBit(t *testing.T) {
	for _, long := range []int{1, 64, 65, 130} {
		key, text := mixed(long), mixed(long+1)
		seen := map[[32]byte]bool{hmac.Of(key, text): true}
		for _, b := range [][]byte{key, text} {
			for bit := range 8 * len(b) {
				b[bit/8] ^= 1 << (bit % 8)
				got := hmac.Of(key, text)
				if got != reference(key, text) || seen[got] {
					t.Errorf("%d bytes, bit %d: %x", long, bit, got)
				}
				seen[got] = true
				b[bit/8] ^= 1 << (bit % 8)
			}
		}
	}
}

func TestOfNothing(t *testing.T) {
	for _, long := range keyEdges {
		key := mixed(long)
		want := reference(key, nil)
		if got := hmac.Of(key); got != want {
			t.Errorf("key of %d bytes, no pieces: %x, not %x", long, got, want)
		}
		for i, l := range [][][]byte{nil, {}, {nil}, {{}}, {nil, nil}, {nil, {}, nil}, {{}, {}}} {
			if got := hmac.Of(key, l...); got != want {
				t.Errorf("key of %d bytes, %d: %x, not %x", long, i, got, want)
			}
		}
	}
}

// nil is a key of no bytes.
func TestOfNoKey(t *testing.T) {
	for _, long := range textEdges {
		text := mixed(long)
		want := reference(nil, text)
		if hmac.Of(nil, text) != want || hmac.Of([]byte{}, text) != want || hmac.Of([]byte{0}, text) != want || hmac.Of(make([]byte, 64), text) != want {
			t.Errorf("text of %d bytes: not %x", long, want)
		}
	}
	if hmac.Of(nil) != reference(nil, nil) {
		t.Error("neither key nor pieces")
	}
}

// Where a text is cut, once or twice, makes no difference.
func TestOfPieces(t *testing.T) {
	for _, key := range [][]byte{nil, []byte("key"), mixed(64), mixed(65)} {
		for _, long := range textEdges {
			b := mixed(long)
			want := reference(key, b)
			for i := range long + 1 {
				if got := hmac.Of(key, b[:i], b[i:]); got != want {
					t.Errorf("%d bytes, cut at %d: %x, not %x", long, i, got, want)
				}
				for j := i; j <= long; j += 1 + long/8 {
					if got := hmac.Of(key, b[:i], b[i:j], b[j:]); got != want {
						t.Errorf("%d bytes, cut at %d and %d: %x, not %x", long, i, j, got, want)
					}
				}
			}
		}
	}
}

// pieces cuts b into pieces of so many bytes, the last one aside, with nothing ahead of, between and behind them.
func pieces(b []byte, long int) [][]byte {
	l := [][]byte{nil}
	for len(b) > long {
		l = append(l, b[:long], nil, []byte{})
		b = b[long:]
	}
	return append(l, b, []byte{}, nil)
}

func TestOfManyPieces(t *testing.T) {
	for _, key := range [][]byte{nil, mixed(20), mixed(64), mixed(65)} {
		for _, whole := range append([]int{1000, 4097}, textEdges...) {
			b := mixed(whole)
			want := reference(key, b)
			for _, long := range []int{1, 2, 3, 7, 32, 63, 64, 65, 128} {
				if got := hmac.Of(key, pieces(b, long)...); got != want {
					t.Errorf("%d bytes, by %d: %x, not %x", whole, long, got, want)
				}
			}
		}
	}
}

func TestOfPiecesHangsOnTheirOrder(t *testing.T) {
	key, a, b := []byte("key"), []byte("ab"), []byte("c")
	if hmac.Of(key, a, b) != reference(key, []byte("abc")) || hmac.Of(key, b, a) != reference(key, []byte("cab")) {
		t.Error("pieces don't stand one behind the other")
	}
	if hmac.Of(key, a, a) != reference(key, []byte("abab")) || hmac.Of(key, a, a[1:], a[:1]) != reference(key, []byte("abba")) {
		t.Error("pieces that share memory don't each count")
	}
	if hmac.Of(a, b) != reference(a, b) || hmac.Of(b, a) != reference(b, a) || hmac.Of(key, key) != reference(key, key) {
		t.Error("key and text are taken one for the other")
	}
	whole := []byte("keytext")
	if hmac.Of(whole[:3], whole[3:]) != reference([]byte("key"), []byte("text")) || hmac.Of(whole[:3], whole) != reference([]byte("key"), whole) {
		t.Error("a key and a text that share memory don't each count")
	}
}

// R4

func TestGivenIsNotChanged(t *testing.T) {
	for _, long := range keyEdges {
		for _, whole := range textEdges {
			key, first, second := guard(mixed(long)), guard(mixed(whole)), guard([]byte("behind"))
			hmac.Of(key.given)
			hmac.Of(key.given, first.given)
			hmac.Of(key.given, first.given, second.given, first.given, key.given)
			key.check(t, "the key")
			first.check(t, "the first piece")
			second.check(t, "the second piece")
		}
	}
}

// Neither the list that is handed in nor what stands in its spare room is changed.
func TestListOfPiecesIsNotChanged(t *testing.T) {
	for long := range 6 {
		whole := [][]byte{[]byte("abc"), nil, {}, []byte("de"), []byte("spare"), []byte("room"), nil}
		hmac.Of([]byte("key"), whole[:long]...)
		if string(whole[0]) != "abc" || whole[1] != nil || whole[2] == nil || len(whole[2]) != 0 || string(whole[3]) != "de" ||
			string(whole[4]) != "spare" || string(whole[5]) != "room" || whole[6] != nil {
			t.Errorf("of %d pieces: the list became %q", long, whole)
		}
	}
}

func TestGivenIsNotKept(t *testing.T) {
	for _, long := range keyEdges {
		key, text := mixed(long), mixed(100)
		d := hmac.Of(key, text)
		was := d
		clear(key)
		clear(text)
		if d != was || hmac.Of(key, text) != reference(make([]byte, long), make([]byte, 100)) || hmac.Of(mixed(long), mixed(100)) != was {
			t.Errorf("key of %d bytes: what was handed in earlier makes a difference", long)
		}
	}
}

// R1, R5

// Asked again the call answers likewise, whatever was asked between, and whatever stands in the spare room.
func TestSameArgumentsSameAnswers(t *testing.T) {
	for _, long := range keyEdges {
		key, text := mixed(long), mixed(long+3)
		want := hmac.Of(key, text)
		hmac.Of(mixed(long+1), text, key)
		hmac.Of(nil)
		if got := hmac.Of(guard(key).given, guard(text).given); got != want {
			t.Errorf("key of %d bytes, room behind: %x, not %x", long, got, want)
		}
		if got := hmac.Of(key[:long:long], text); got != want {
			t.Errorf("key of %d bytes, no room behind: %x, not %x", long, got, want)
		}
	}
}
