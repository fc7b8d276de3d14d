package segment_test

import (
	"bytes"
	"fmt"
	"slices"
	"testing"

	"ferrybridge/api"
	"ferrybridge/segment"
)

// refused tells whether Get of b answers that error, and nothing beside it.
func refused(t *testing.T, when string, b []byte, want api.Errno) {
	t.Helper()
	if s, e := segment.Get(b); !equal(s, api.Segment{}) || e != want {
		t.Errorf("%s: Get(%x): %+v, %d, not %d", when, b, s, e, want)
	}
}

// raw is bytes of which nothing need be right: the numbers ahead of the options are those of ordinary, but what set changes.
func raw(set func(b []byte), behind string) []byte {
	b := open(build(ordinary, nil, "").b)[:ahead]
	set(b)
	return seal(append(b, behind...))
}

// counts sets how many options, and how many bytes of data, there are said to be.
func counts(opts, data int) func(b []byte) {
	return func(b []byte) { b[optsAt], b[dataAt] = byte(opts), byte(data) }
}

// bad sets counts, and makes all numbers ahead such that nothing of them is right.
func bad(opts, data int) func(b []byte) {
	return func(b []byte) {
		for i := range b {
			b[i] = 0xff
		}
		counts(opts, data)(b)
	}
}

// P8.1, ErrSum

func TestGetOfNoBytes(t *testing.T) {
	refused(t, "nil", nil, api.ErrSum)
	refused(t, "empty", []byte{}, api.ErrSum)
	refused(t, "empty, with spare room", full().b[:0], api.ErrSum)
	for n := range 256 {
		refused(t, "one byte", []byte{byte(n)}, api.ErrSum)
	}
}

func TestGetOfOddBytes(t *testing.T) {
	for _, m := range samples() {
		refused(t, "the last one is missing", m.b[:len(m.b)-1], api.ErrSum)
		refused(t, "the first one is missing", m.b[1:], api.ErrSum)
		refused(t, "a 0 more", append(bytes.Clone(m.b), 0), api.ErrSum)
		refused(t, "a 0 more at front", append([]byte{0}, m.b...), api.ErrSum)
		refused(t, "a 0 more ahead of the sum", slices.Insert(bytes.Clone(m.b), len(m.b)-2, 0), api.ErrSum)
		for n := 1; n < len(m.b); n += 2 {
			refused(t, "cut", m.b[:n], api.ErrSum)
			refused(t, "cut, with no spare room", m.b[:n:n], api.ErrSum)
		}
	}
}

// A sum that isn't right is told ahead of all else.
func TestGetOfAnotherSum(t *testing.T) {
	texts := [][]byte{full().b, build(least, nil, "").b, raw(bad(0, 0), ""), raw(bad(255, 255), ""), raw(counts(1, 0), "\x0c"), raw(counts(0, 3), "a"), seal(nil), seal([]byte{1, 2}), seal(make([]byte, 16))}
	for _, b := range texts {
		for by := 1; by < 65535; by++ {
			c := bytes.Clone(b)
			n := int(c[len(c)-2])<<8 + int(c[len(c)-1])
			if n += by; n > 65535 {
				n -= 65535
			}
			c[len(c)-2], c[len(c)-1] = byte(n>>8), byte(n)
			refused(t, "the sum is another one", c, api.ErrSum)
		}
	}
	for n := range 65535 {
		refused(t, "a sum of nothing", []byte{byte(n >> 8), byte(n)}, api.ErrSum)
	}
	refused(t, "a 0 at front, which turns all about", append([]byte{0}, open(full().b)...), api.ErrSum)
}

// P8.1, ErrEnd ahead of how many bytes of data there are

// Cut at every place, whatever stands in what is there, and whatever in the spare room.
func TestGetOfBytesThatEndAhead(t *testing.T) {
	refused(t, "a sum alone", []byte{255, 255}, api.ErrEnd)
	for _, whole := range [][]byte{open(full().b), open(build(least, nil, "").b), open(raw(bad(0, 0), "")), open(raw(bad(255, 255), "")), bytes.Repeat([]byte{0xff}, 40), make([]byte, 40)} {
		for n := range ahead {
			b := seal(whole[:n])
			if len(b) > ahead+1 {
				t.Fatalf("%d bytes", len(b))
			}
			refused(t, fmt.Sprintf("%d bytes and the sum", n), b, api.ErrEnd)
			g := guard(b, "spare room that is long enough")
			refused(t, fmt.Sprintf("%d bytes and the sum, with spare room", n), g.given, api.ErrEnd)
		}
	}
}

// What follows from there on is enough.
func TestGetOfJustEnough(t *testing.T) {
	b := make([]byte, ahead)
	if s, e := segment.Get(seal(b)); !equal(s, api.Segment{}) || e != api.OK {
		t.Errorf("%+v, %d", s, e)
	}
}

// P8.1, the options' errors

// goods are bytes of right options, one behind the other.
func goods(n int) string {
	b := ""
	for i := range n {
		b += options[i%len(options)].b
	}
	return b
}

// spoiltOptions are bytes of an option that are all there, and aren't formed so.
var spoiltOptions = []string{
	"\x00", "\x0c", "\xff",
	"\x08\x02", "\x08\xff", "\x06\x04", "\x07\xff",
	"\x05\x00\x00\x00\x00\x01\x00\x00\x00\x00\x00\x00\x00",
	"\x05\x00\x00\x00\x00\x00\x00\x00\x00\x00\x00\x00\x01",
	"\x05\x00\x00\x00\x00\x00\x01\x00\x00\x00\x00\x09\x00",
	"\x02\x00\x00\x00\x00\x00\x00\x00\x00\x00\x02",
}

// Each option's ErrForm, at each place, ahead of all that is behind it: options that end within, options of no kind, data that are missing.
func TestGetOfAnOptionThatIsNotFormedSo(t *testing.T) {
	for _, spoilt := range spoiltOptions {
		for at := range 8 {
			for _, behind := range []string{"", goods(4), "\x05\x01", "\x0c\x0c\x0c", "abcdefgh", "\x08", "\x00\x00\x00"} {
				for more := range 4 {
					for _, data := range []int{0, 8, 9, 255} {
						for _, set := range []func(b []byte){counts(at+1+more, data), bad(at+1+more, data)} {
							refused(t, fmt.Sprintf("%x, at %d", spoilt, at), raw(set, goods(at)+spoilt+behind), api.ErrForm)
						}
					}
				}
			}
		}
	}
}

// Each option's ErrEnd, at each place, of each kind and cut at every place, also where nothing ahead of it is right.
func TestGetOfAnOptionThatEndsWithin(t *testing.T) {
	for at := range 8 {
		for _, o := range options {
			for n := range o.b {
				behind := goods(at) + o.b[:n]
				// Of odd bytes the 0 is the option's last one: with it, it is whole, or still ends within.
				if (ahead+len(behind))%2 == 1 {
					continue
				}
				for more := range 3 {
					for _, data := range []int{0, 1, 8, 9, 255} {
						for _, set := range []func(b []byte){counts(at+1+more, data), bad(at+1+more, data)} {
							b := raw(set, behind)
							refused(t, fmt.Sprintf("kind %d, at %d, %d bytes", o.o.Kind, at, n), b, api.ErrEnd)
							refused(t, "with spare room", guard(b, goods(4)).given, api.ErrEnd)
						}
					}
				}
			}
		}
	}
}

// The sum is none of an option's bytes: whatever it is, an option that goes on into it ends within.
func TestGetDoesNotTakeTheSumAsAnOption(t *testing.T) {
	for n := range 256 {
		b := seal(append(open(build(ordinary, nil, "").b)[:flagsAt+1], byte(n), 0, 1, 0, 8))
		refused(t, "Prio without its Backup", b, api.ErrEnd)
		c := seal(append(open(build(ordinary, nil, "").b)[:flagsAt+1], byte(n), 0, 0, 1))
		if s, e := segment.Get(c); e != api.OK || string(s.Data) != "\x00" {
			t.Errorf("Get(%x): %+v, %d", c, s, e)
		}
		d := seal(append(open(build(ordinary, nil, "").b)[:flagsAt+1], byte(n), 0, 0, 2, 'a'))
		refused(t, "a byte of two", d, api.ErrEnd)
	}
}

// Where an option should be there is the 0 that makes the whole even: that is a kind that there isn't. Where there is nothing any more it ends.
func TestGetOfOptionsThatAreMissing(t *testing.T) {
	for many := range 6 {
		for said := many + 1; said <= many+3; said++ {
			want := api.ErrEnd
			if (ahead+len(goods(many)))%2 == 1 {
				want = api.ErrForm
			}
			refused(t, fmt.Sprintf("%d options of %d", many, said), raw(counts(said, 0), goods(many)), want)
		}
	}
	refused(t, "none of one", raw(counts(1, 0), ""), api.ErrForm)
	refused(t, "one of two", raw(counts(2, 0), "\x09\x00\x00\x00\x00"), api.ErrEnd)
}

// P8.1, data that are missing

// Told ahead of flags above 15 and all else that isn't right, behind the options.
func TestGetOfDataThatAreMissing(t *testing.T) {
	for many := range 8 {
		for n := range 20 {
			behind := goods(many) + "abcdefghijklmnopqrst"[:n]
			left := n + (ahead+len(behind))%2
			for _, said := range []int{left + 1, left + 2, 100, 254, 255} {
				for _, set := range []func(b []byte){counts(many, said), bad(many, said)} {
					b := raw(set, behind)
					refused(t, fmt.Sprintf("%d options, %d bytes of %d", many, left, said), b, api.ErrEnd)
					refused(t, "with spare room", guard(b, string(make([]byte, 300))).given, api.ErrEnd)
				}
			}
		}
	}
}

// P8.1, ErrForm in the end

func TestGetOfFlagsAboveAll(t *testing.T) {
	for n := range 256 {
		for _, c := range []struct {
			opts, data int
			behind     string
		}{{0, 0, ""}, {1, 2, "\x08\x01ab"}, {4, 8, goods(4) + "abcdefgh"}} {
			b := raw(func(b []byte) { counts(c.opts, c.data)(b); b[flagsAt] = byte(n) }, c.behind)
			if n > 15 {
				refused(t, fmt.Sprintf("flags %d", n), b, api.ErrForm)
			} else if s, e := segment.Get(b); e != api.OK || s.Syn != (n&1 > 0) || s.Acks != (n&2 > 0) || s.Fin != (n&4 > 0) || s.Rst != (n&8 > 0) {
				t.Errorf("flags %d: %+v, %d", n, s, e)
			}
		}
	}
}

// The byte that is left is a 0, if there is one.
func TestGetOfAnotherByteLeft(t *testing.T) {
	for _, c := range []struct {
		opts, data int
		behind     string
	}{{0, 0, ""}, {1, 2, "\x08\x01ab"}, {1, 1, "\x09\x00\x00\x00\x01a"}, {4, 8, goods(4) + "abcdefgh"}, {4, 7, goods(4) + "abcdefg"}} {
		if (ahead+len(c.behind))%2 == 0 {
			for n := range 256 {
				refused(t, "two bytes more", raw(counts(c.opts, c.data), c.behind+"\x00"+string([]byte{byte(n)})), api.ErrForm)
			}
			continue
		}
		for n := range 256 {
			b := raw(counts(c.opts, c.data), c.behind+string([]byte{byte(n)}))
			if n > 0 {
				refused(t, fmt.Sprintf("%d is left", n), b, api.ErrForm)
			} else if _, e := segment.Get(b); e != api.OK {
				t.Errorf("Get(%x): %d", b, e)
			}
		}
	}
}

func TestGetOfMoreBytesLeft(t *testing.T) {
	for _, m := range samples() {
		for _, n := range []int{2, 4, 6, 20, 300, 1000} {
			for _, with := range []byte{0, 1, 8, 255} {
				b := seal(append(open(m.b), bytes.Repeat([]byte{with}, n)...))
				refused(t, fmt.Sprintf("%d bytes more of %d", n, with), b, api.ErrForm)
			}
		}
	}
}

func TestGetOfAddressesThatAreNotRight(t *testing.T) {
	for _, m := range samples() {
		for _, at := range []int{0, 1} {
			for _, n := range []byte{4, 5, 7, 8, 127, 128, 254, 255} {
				b := open(m.b)
				b[at] = n
				refused(t, fmt.Sprintf("%d at %d", n, at), seal(b), api.ErrForm)
			}
		}
	}
}

// Five options or more, all right: up to as many as a byte tells.
func TestGetOfTooManyOptions(t *testing.T) {
	for many := range 256 {
		for _, data := range []int{0, 8, 9} {
			b := raw(counts(many, data), goods(many)+"abcdefghi"[:data])
			if many > 4 || data > 8 {
				refused(t, fmt.Sprintf("%d options", many), b, api.ErrForm)
			} else if s, e := segment.Get(b); len(s.Opts) != many || len(s.Data) != data || e != api.OK {
				t.Errorf("%d options: %+v, %d", many, s, e)
			}
		}
	}
	// The errors of those that are too many are told ahead.
	for many := 5; many < 256; many++ {
		front := goods(many - 1)
		if (ahead+len(front))%2 == 1 {
			refused(t, fmt.Sprintf("the last one of %d ends within", many), raw(counts(many, 0), front+"\x09\x00\x00"), api.ErrEnd)
		} else {
			refused(t, fmt.Sprintf("the last one of %d ends within", many), raw(counts(many, 0), front), api.ErrEnd)
		}
		refused(t, fmt.Sprintf("the last one of %d is of no kind", many), raw(counts(many, 9), front+"\x0c"), api.ErrForm)
		refused(t, fmt.Sprintf("data are missing behind %d", many), raw(counts(many, 9), front+"\x08\x01abcd"), api.ErrEnd)
	}
}

func TestGetOfTooManyData(t *testing.T) {
	for n := range 256 {
		b := raw(counts(0, n), string(bytes.Repeat([]byte("x"), n)))
		if n > 8 {
			refused(t, fmt.Sprintf("%d bytes", n), b, api.ErrForm)
		} else if s, e := segment.Get(b); !bytes.Equal(s.Data, bytes.Repeat([]byte("x"), n)) || e != api.OK {
			t.Errorf("%d bytes: %+v, %d", n, s, e)
		}
	}
}

// Which of several errors is answered: the one that stands further left, and ErrForm in the end.
func TestGetOfSeveralErrors(t *testing.T) {
	for i, c := range []struct {
		b    []byte
		want api.Errno
	}{
		// the sum, ahead of bytes that end, of options, of data and of what isn't right
		{[]byte{0, 0}, api.ErrSum},
		{append(open(seal([]byte{4, 4})), 0, 0), api.ErrSum},
		{append(open(raw(bad(1, 0), "\x0c")), 0, 0), api.ErrSum},
		{append(open(raw(bad(1, 0), "\x08")), 0, 0), api.ErrSum},
		{append(open(raw(bad(0, 3), "a")), 0, 0), api.ErrSum},
		{append(open(raw(bad(0, 0), "")), 0, 0), api.ErrSum},
		// bytes that end, ahead of addresses that aren't right
		{seal([]byte{4, 4}), api.ErrEnd},
		{seal(bytes.Repeat([]byte{255}, 18)), api.ErrEnd},
		// an option ahead of another one, of data, and of what isn't right
		{raw(bad(2, 0), "\x08\x02\x09"), api.ErrForm},
		{raw(bad(2, 9), "\x0c\x08\x01"), api.ErrForm},
		{raw(bad(2, 9), "\x09\x00\x00\x00\x00"), api.ErrEnd},
		{raw(bad(5, 0), goods(4)+"\x09\x01"), api.ErrEnd},
		{raw(bad(5, 255), goods(4)+"\x08\x02"), api.ErrForm},
		// data, ahead of flags, five options, nine bytes and addresses
		{raw(bad(0, 9), "abc"), api.ErrEnd},
		{raw(bad(5, 9), goods(5)+"abcd"), api.ErrEnd},
		{raw(func(b []byte) { b[dataAt], b[flagsAt] = 8, 16 }, "abc"), api.ErrEnd},
		{raw(func(b []byte) { b[dataAt], b[0] = 8, 4 }, "abc"), api.ErrEnd},
		// several of the end
		{raw(bad(0, 0), "abc"), api.ErrForm},
		{raw(bad(5, 9), goods(5)+"abcdefghij"), api.ErrForm},
	} {
		refused(t, place(i), c.b, c.want)
	}
}

// P8.3

func TestWhatIsPutIsGot(t *testing.T) {
	for _, m := range samples() {
		b, e := segment.Put(m.s)
		if e != api.OK {
			t.Fatalf("Put(%+v): %d", m.s, e)
		}
		s, e := segment.Get(b)
		if !equal(s, m.s) || !segment.Same(s, m.s) || !segment.Right(s) || e != api.OK {
			t.Errorf("%+v became %+v, %d", m.s, s, e)
		}
		if again, e := segment.Put(s); !bytes.Equal(again, b) || e != api.OK {
			t.Errorf("%x became %x, %d", b, again, e)
		}
	}
}

// Of bytes of which one is changed, at every place and to each other value, nothing is got.
func TestOfChangedBytesNothingIsGot(t *testing.T) {
	for _, m := range append(samples()[:40], full(), build(least, nil, ""), build(most, options[:4], "\xff\xff\xff\xff\xff\xff\xff\xff")) {
		b, _ := segment.Put(m.s)
		for at := range b {
			for by := 1; by < 256; by++ {
				b[at] += byte(by)
				if s, e := segment.Get(b); !equal(s, api.Segment{}) || e != api.ErrSum {
					t.Errorf("Get(%x): %+v, %d, changed at %d", b, s, e, at)
				}
				b[at] -= byte(by)
			}
		}
	}
}

// Whatever is got has these bytes: no two texts tell the same segment.
func TestWhatIsGotIsPut(t *testing.T) {
	next := uint32(1)
	turn := func(n int) int {
		next = next*1664525 + 1013904223
		return int(next>>8) % n
	}
	got := 0
	for range 200 {
		for _, m := range samples() {
			b := open(m.b)
			for range 1 + turn(2) {
				b[turn(len(b))] = [...]byte{0, 1, 2, 3, 4, 8, 9, byte(turn(256))}[turn(8)]
			}
			b = seal(b[:len(b)-turn(3)])
			s, e := segment.Get(b)
			if e != api.OK {
				if !equal(s, api.Segment{}) || e != api.ErrForm && e != api.ErrEnd {
					t.Errorf("Get(%x): %+v, %d", b, s, e)
				}
				continue
			}
			got++
			if again, f := segment.Put(s); !segment.Right(s) || !bytes.Equal(again, b) || f != api.OK {
				t.Errorf("Get(%x): %+v, which is put as %x, %d", b, s, again, f)
			}
		}
	}
	if got < 1000 {
		t.Errorf("%d are got", got)
	}
}
