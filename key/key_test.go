package key_test

import (
	stdhmac "crypto/hmac"
	"crypto/sha256"
	"encoding/binary"
	"testing"

	"ferrybridge/key"
)

const (
	greatestKey   = 1<<64 - 1
	greatestNonce = 1<<32 - 1
)

// referenceToken tells a token by another way than the program's.
func referenceToken(k uint64) uint32 {
	var b [8]byte
	binary.BigEndian.PutUint64(b[:], k)
	d := sha256.Sum256(b[:])
	return binary.BigEndian.Uint32(d[:4])
}

// referenceProof tells a proof by another way than the program's.
func referenceProof(own, other uint64, nonce, back uint32) uint64 {
	var secret [16]byte
	binary.BigEndian.PutUint64(secret[:8], own)
	binary.BigEndian.PutUint64(secret[8:], other)
	var text [8]byte
	binary.BigEndian.PutUint32(text[:4], nonce)
	binary.BigEndian.PutUint32(text[4:], back)
	h := stdhmac.New(sha256.New, secret[:])
	h.Write(text[:])
	return binary.BigEndian.Uint64(h.Sum(nil)[:8])
}

// keys are the edges, those of which one byte isn't 0 or ff, those with one bit, and some of all sorts.
func keys() []uint64 {
	l := []uint64{0, 1, 2, 39529189, 1<<31 - 1, 1 << 31, 1<<32 - 1, 1 << 32, 1<<63 - 1, 1 << 63, greatestKey - 1, greatestKey, 0x0102030405060708, 0x0807060504030201}
	for place := range 8 {
		for _, b := range []uint64{0x01, 0x7f, 0x80, 0xa5, 0xff} {
			l = append(l, b<<(8*place), ^(b << (8 * place)))
		}
	}
	for bit := range 64 {
		l = append(l, 1<<bit)
	}
	n := uint64(5)
	for range 200 {
		n = n*6364136223846793005 + 1442695040888963407
		l = append(l, n)
	}
	return l
}

// fewKeys and nonces are the edges alone: all of them are tried with each other.
var fewKeys = []uint64{0, 1, 2, 0xff, 0x0100, 1<<32 - 1, 1 << 32, 1 << 63, 0x0102030405060708, 0x0807060504030201, greatestKey - 1, greatestKey}

var nonces = []uint32{0, 1, 2, 0xff, 0x0100, 1 << 16, 1<<31 - 1, 1 << 31, 0x01020304, 0x04030201, greatestNonce - 1, greatestNonce}

// asked is what a proof is asked of.
type asked struct {
	own, other  uint64
	nonce, back uint32
}

func (a asked) proof() uint64 {
	return key.Proof(a.own, a.other, a.nonce, a.back)
}

func (a asked) reference() uint64 {
	return referenceProof(a.own, a.other, a.nonce, a.back)
}

// P5.1, Token

func TestTokenIsAsWritten(t *testing.T) {
	for _, c := range []struct {
		key  uint64
		want uint32
	}{
		{0, 0xaf5570f5},
		{1, 0xcd266215},
		{2, 0xcd04a475},
		{0xff, 0xb8862208},
		{0x0100, 0x30e06038},
		{0x0102030405060708, 0x66840dda},
		{0x0807060504030201, 0x380b9808},
		{0xffffffff, 0x5981693c},
		{0x100000000, 0xcbbc4875},
		{0xffffffff00000000, 0x72a4fa35},
		{1<<63 - 1, 0xc624eebf},
		{1 << 63, 0xb1b0bee5},
		{greatestKey, 0x12a3ae44},
	} {
		if got := key.Token(c.key); got != c.want {
			t.Errorf("Token(%x): %08x, not %08x", c.key, got, c.want)
		}
	}
}

// A token's first bytes may be 0: the bytes behind them aren't taken in their stead.
func TestTokenThatBeginsWithZeros(t *testing.T) {
	for _, c := range []struct {
		key  uint64
		want uint32
	}{{30556, 0x0000beb9}, {206165, 0x0000942a}, {39529189, 0x00000007}} {
		if got := key.Token(c.key); got != c.want {
			t.Errorf("Token(%d): %08x, not %08x", c.key, got, c.want)
		}
	}
}

func TestTokenIsAsReckoned(t *testing.T) {
	for _, k := range keys() {
		if got, want := key.Token(k), referenceToken(k); got != want {
			t.Errorf("Token(%x): %08x, not %08x", k, got, want)
		}
	}
	for k := range uint64(5000) {
		if got, want := key.Token(k), referenceToken(k); got != want {
			t.Errorf("Token(%d): %08x, not %08x", k, got, want)
		}
	}
}

// Each bit of a key counts: those of the higher half as well as those of the lower one.
func TestTokenHangsOnEachBit(t *testing.T) {
	for _, k := range fewKeys {
		seen := map[uint32]int{key.Token(k): -1}
		for bit := range 64 {
			n := key.Token(k ^ 1<<bit)
			if other, ok := seen[n]; ok {
				t.Errorf("Token(%x): %08x with the bits %d and %d turned over", k, n, other, bit)
			}
			seen[n] = bit
		}
	}
}

// P5.1, Proof

func TestProofIsAsWritten(t *testing.T) {
	for _, c := range []struct {
		asked
		want uint64
	}{
		{asked{}, 0xf375180aba928884},
		{asked{1, 2, 3, 4}, 0xe5c5265ef877e594},
		{asked{2, 1, 3, 4}, 0x34522d0868d91c4b},
		{asked{1, 2, 4, 3}, 0xab0182b7b4d18e04},
		{asked{2, 1, 4, 3}, 0xcc1c2d426c3aa0d7},
		{asked{7, 7, 9, 9}, 0xa98d7bc7e12b7cb1},
		{asked{greatestKey, greatestKey, greatestNonce, greatestNonce}, 0x1a883dbb5066fea1},
		{asked{own: greatestKey}, 0x18766daf3c3eb0bc},
		{asked{other: greatestKey}, 0xfbd1ea3bfaccb844},
		{asked{nonce: greatestNonce}, 0x440f5b3f8538aaed},
		{asked{back: greatestNonce}, 0x828bba184290d4dd},
		{asked{0x0102030405060708, 0x1112131415161718, 0x21222324, 0x31323334}, 0xe19ad4ac22d51c2f},
		{asked{0x1112131415161718, 0x0102030405060708, 0x31323334, 0x21222324}, 0x0fce2597e55e87ef},
		{asked{1 << 63, 1 << 32, 1 << 31, 1 << 16}, 0x0a1f1803b6e9d629},
	} {
		if got := c.proof(); got != c.want {
			t.Errorf("Proof of %x: %016x, not %016x", c.asked, got, c.want)
		}
	}
}

// The edges, each with each.
func TestProofIsAsReckoned(t *testing.T) {
	for _, own := range fewKeys {
		for _, other := range fewKeys {
			for _, nonce := range nonces {
				for _, back := range nonces {
					a := asked{own, other, nonce, back}
					if got, want := a.proof(), a.reference(); got != want {
						t.Errorf("Proof of %x: %016x, not %016x", a, got, want)
					}
				}
			}
		}
	}
}

func TestProofOfEachKey(t *testing.T) {
	for _, k := range keys() {
		for _, a := range []asked{
			{own: k}, {other: k}, {own: k, other: k}, {own: k, other: ^k, nonce: uint32(k), back: uint32(k >> 32)}, {nonce: uint32(k)}, {back: uint32(k)},
		} {
			if got, want := a.proof(), a.reference(); got != want {
				t.Errorf("Proof of %x: %016x, not %016x", a, got, want)
			}
		}
	}
}

// One's own and the other one's aren't taken one for the other, unless they are alike.
func TestProofTellsSidesApart(t *testing.T) {
	for _, own := range fewKeys {
		for _, other := range fewKeys {
			for i, nonce := range nonces {
				back := nonces[(i+5)%len(nonces)]
				a := asked{own, other, nonce, back}.proof()
				if same := a == (asked{other, own, nonce, back}).proof(); same != (own == other) {
					t.Errorf("keys %x and %x turned about, the same proof: %v", own, other, same)
				}
				if a == (asked{own, other, back, nonce}).proof() {
					t.Errorf("nonces %x and %x turned about: the same proof", nonce, back)
				}
				if a == (asked{other, own, back, nonce}).proof() {
					t.Errorf("keys %x and %x, nonces %x and %x: both sides have one proof", own, other, nonce, back)
				}
				if like := (asked{own, other, nonce, nonce}); like.proof() != like.reference() {
					t.Errorf("keys %x and %x, nonces %x alike: another proof", own, other, nonce)
				}
			}
		}
	}
}

// Each bit of all four counts, and none stands for another one.
func TestProofHangsOnEachBit(t *testing.T) {
	for _, a := range []asked{{}, {1, 2, 3, 4}, {7, 7, 9, 9}, {greatestKey, greatestKey, greatestNonce, greatestNonce}} {
		seen := map[uint64]asked{a.proof(): a}
		see := func(b asked) {
			n := b.proof()
			if c, ok := seen[n]; ok {
				t.Errorf("Proof of %x and of %x: %016x", b, c, n)
			}
			seen[n] = b
		}
		for bit := range 64 {
			b, c := a, a
			b.own ^= 1 << bit
			c.other ^= 1 << bit
			see(b)
			see(c)
		}
		for bit := range 32 {
			b, c := a, a
			b.nonce ^= 1 << bit
			c.back ^= 1 << bit
			see(b)
			see(c)
		}
	}
}

// R1, R5

// Asked again each call answers likewise, whatever was asked between.
func TestSameArgumentsSameAnswers(t *testing.T) {
	l := keys()
	for i, k := range l {
		a := asked{k, l[len(l)-1-i], uint32(k), uint32(k>>32) + 1}
		n, p := key.Token(k), a.proof()
		key.Token(^k)
		key.Proof(a.other, a.own, a.back, a.nonce)
		key.Proof(0, greatestKey, greatestNonce, 0)
		if m := key.Token(k); m != n {
			t.Errorf("Token(%x): %08x, %08x", k, n, m)
		}
		if q := a.proof(); q != p {
			t.Errorf("Proof of %x: %016x, %016x", a, p, q)
		}
	}
}
