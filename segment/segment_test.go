package segment_test

import (
	"bytes"
	"encoding/binary"
	"fmt"
	"math"
	"reflect"
	"slices"
	"testing"

	"ferrybridge/api"
	"ferrybridge/segment"
)

const (
	all4 = 1<<32 - 1
	all8 = 1<<64 - 1
)

// part is a number ahead of the options, as the chapter has it: how many bytes it has, the greatest that it may be, and how it is set.
type part struct {
	name     string
	wide     int
	greatest uint64
	set      func(s *api.Segment, n uint64)
}

// parts are the numbers up to Win, in their order; the flags are one.
var parts = []part{
	{"Src", 1, 3, func(s *api.Segment, n uint64) { s.Src = int(n) }},
	{"Dst", 1, 3, func(s *api.Segment, n uint64) { s.Dst = int(n) }},
	{"SPort", 2, 65535, func(s *api.Segment, n uint64) { s.SPort = int(n) }},
	{"DPort", 2, 65535, func(s *api.Segment, n uint64) { s.DPort = int(n) }},
	{"Seq", 4, all4, func(s *api.Segment, n uint64) { s.Seq = uint32(n) }},
	{"Ack", 4, all4, func(s *api.Segment, n uint64) { s.Ack = uint32(n) }},
	{"flags", 1, 15, func(s *api.Segment, n uint64) {
		s.Syn, s.Acks, s.Fin, s.Rst = n%2 == 1, n/2%2 == 1, n/4%2 == 1, n/8%2 == 1
	}},
	{"Win", 2, 65535, func(s *api.Segment, n uint64) { s.Win = int(n) }},
}

// where in a segment's bytes stand the flags, how many options there are, and how many bytes of data; what is ahead of the options has that many bytes.
const (
	flagsAt = 14
	optsAt  = 17
	dataAt  = 18
	ahead   = 19
)

// written is an option with its bytes, as chapter 7 has them.
type written struct {
	o api.Option
	b string
}

// options are right ones, of each kind, some of an odd length and some of an even one.
var options = []written{
	{api.Option{Kind: api.Prio, Backup: true}, "\x08\x01"},
	{api.Option{Kind: api.Fail, Dsn: 0x01020304}, "\x09\x01\x02\x03\x04"},
	{api.Option{Kind: api.Join, Token: 0xa1a2a3a4, Nonce: 0xb1b2b3b4, Addr: 3, Backup: true}, "\x02\xa1\xa2\xa3\xa4\xb1\xb2\xb3\xb4\x03\x01"},
	{api.Option{Kind: api.Dss, HasAck: true, Ack: 0x11121314, HasMap: true, Dsn: 0x21222324, Len: 8, Fin: true}, "\x05\x01\x11\x12\x13\x14\x01\x21\x22\x23\x24\x08\x01"},
	{api.Option{Kind: api.Capable, Key: 0x0102030405060708}, "\x01\x01\x02\x03\x04\x05\x06\x07\x08"},
	{api.Option{Kind: api.JoinBack, Mac: 0x1112131415161718, Nonce: 0x191a1b1c}, "\x03\x11\x12\x13\x14\x15\x16\x17\x18\x19\x1a\x1b\x1c"},
	{api.Option{Kind: api.JoinEnd, Mac: all8}, "\x04\xff\xff\xff\xff\xff\xff\xff\xff"},
	{api.Option{Kind: api.Add, Addr: 2}, "\x06\x02"},
	{api.Option{Kind: api.Remove}, "\x07\x00"},
	{api.Option{Kind: api.Fast, Key: 1}, "\x0a\x00\x00\x00\x00\x00\x00\x00\x01"},
	{api.Option{Kind: api.Reset, Reason: 255}, "\x0b\xff"},
	{api.Option{Kind: api.Dss}, "\x05\x00\x00\x00\x00\x00\x00\x00\x00\x00\x00\x00\x00"},
	{api.Option{Kind: api.Prio}, "\x08\x00"},
}

// wrongOptions are some that aren't right, each by another of layer 7's reasons.
var wrongOptions = []api.Option{
	{},
	{Kind: -1},
	{Kind: 12},
	{Kind: math.MinInt},
	{Kind: api.Add, Addr: 4},
	{Kind: api.Add, Addr: -1},
	{Kind: api.Prio, Key: 1},
	{Kind: api.Reset, Reason: 256},
	{Kind: api.Dss, Ack: 1},
	{Kind: api.Dss, HasMap: true, Len: 9},
	{Kind: api.Fail, Dsn: all4 + 1},
}

// sumOf is the sum of even bytes by another way than the program's: what is left when their number is divided by 65535.
func sumOf(b []byte) uint16 {
	some, left := false, uint64(0)
	for _, one := range b {
		some = some || one != 0
		left = (left*256 + uint64(one)) % 65535
	}
	if left == 0 && some {
		left = 65535
	}
	return uint16(65535 - left)
}

// seal makes b even, and lays its sum behind it.
func seal(b []byte) []byte {
	b = append(bytes.Clone(b), make([]byte, len(b)%2)...)
	return binary.BigEndian.AppendUint16(b, sumOf(b))
}

// open is what is ahead of good bytes' sum.
func open(b []byte) []byte {
	return bytes.Clone(b[:len(b)-2])
}

// place tells which one of several it is.
func place(i int) string {
	return fmt.Sprintf("the one at %d", i)
}

// made is a segment with its bytes.
type made struct {
	s api.Segment
	b []byte
}

// build lays a segment by a number for each of its parts, its options and its data.
func build(n func(p part) uint64, opts []written, data string) made {
	var m made
	for _, p := range parts {
		m.b = append(m.b, binary.BigEndian.AppendUint64(nil, n(p))[8-p.wide:]...)
		p.set(&m.s, n(p))
	}
	m.b = append(m.b, byte(len(opts)), byte(len(data)))
	for _, o := range opts {
		m.b = append(m.b, o.b...)
		m.s.Opts = append(m.s.Opts, o.o)
	}
	m.b = seal(append(m.b, data...))
	m.s.Data = []byte(data)
	return m
}

func least(part) uint64      { return 0 }
func most(p part) uint64     { return p.greatest }
func mixed(p part) uint64    { return min(p.greatest, 0xc1c2c3c4>>(32-8*p.wide)) }
func ordinary(p part) uint64 { return min(p.greatest, 0x01020304>>(32-8*p.wide)) }

// full is a segment of which all fields are set.
func full() made {
	return build(mixed, options[:4], "abcdefgh")
}

// samples are segments that are right: with the least, the greatest and other numbers, and many ways of options and data.
func samples() []made {
	l := []made{full()}
	for _, n := range []func(part) uint64{least, most, mixed, ordinary} {
		for _, data := range []string{"", "a", "ab", "\x00", "\xff\xff\xff", "abcdefgh", "\x00\x00\x00\x00\x00\x00\x00\x00"} {
			for many := range 5 {
				l = append(l, build(n, options[:many], data), build(n, options[many:many+many], data))
			}
		}
	}
	for _, o := range options {
		l = append(l, build(ordinary, []written{o}, "x"), build(least, []written{o, o, o, o}, ""))
	}
	return l
}

// equal tells by another way than the program's whether a and b are the same, nil and empty lists as one.
func equal(a, b api.Segment) bool {
	for _, s := range []*api.Segment{&a, &b} {
		s.Opts, s.Data = append([]api.Option{}, s.Opts...), append([]byte{}, s.Data...)
	}
	return reflect.DeepEqual(a, b)
}

// putsAndGets tells whether m's segment is right, and has those bytes, and they that segment.
func putsAndGets(t *testing.T, when string, m made) {
	t.Helper()
	if !segment.Right(m.s) {
		t.Errorf("%s: Right(%+v): no", when, m.s)
	}
	if b, e := segment.Put(m.s); !bytes.Equal(b, m.b) || e != api.OK {
		t.Errorf("%s: Put(%+v): %x, %d, not %x", when, m.s, b, e, m.b)
	}
	if s, e := segment.Get(m.b); !equal(s, m.s) || e != api.OK {
		t.Errorf("%s: Get(%x): %+v, %d, not %+v", when, m.b, s, e, m.s)
	}
}

// notRight tells whether s isn't right, and nothing is put of it.
func notRight(t *testing.T, when string, s api.Segment) {
	t.Helper()
	if segment.Right(s) {
		t.Errorf("%s: Right: yes", when)
	}
	if b, e := segment.Put(s); len(b) != 0 || e != api.ErrArg {
		t.Errorf("%s: Put: %x, %d", when, b, e)
	}
}

// The chapter's example

func TestExample(t *testing.T) {
	b, e := segment.Put(api.Segment{})
	if len(b) != 22 || e != api.OK {
		t.Errorf("Put of a segment with nothing: %x, %d", b, e)
	}
}

// Words: a segment's bytes

func TestBytesAsWritten(t *testing.T) {
	for i, m := range []struct {
		s    api.Segment
		want string
	}{
		{api.Segment{},
			"\x00\x00\x00\x00\x00\x00\x00\x00\x00\x00\x00\x00\x00\x00\x00\x00\x00\x00\x00" + "\x00" + "\xff\xff"},
		{api.Segment{Src: 1, Dst: 2, SPort: 0x0304, DPort: 0x0506, Seq: 0x0708090a, Ack: 0x0b0c0d0e, Acks: true, Win: 0x0f10},
			"\x01\x02\x03\x04\x05\x06\x07\x08\x09\x0a\x0b\x0c\x0d\x0e\x02\x0f\x10\x00\x00" + "\x00" + "\xbc\xb8"},
		{api.Segment{Src: 3, Dst: 3, SPort: 65535, DPort: 65535, Seq: all4, Ack: all4, Syn: true, Acks: true, Fin: true, Rst: true, Win: 65535},
			"\x03\x03\xff\xff\xff\xff\xff\xff\xff\xff\xff\xff\xff\xff\x0f\xff\xff\x00\x00" + "\x00" + "\xed\xfc"},
		{api.Segment{Fin: true, Data: []byte("a")},
			"\x00\x00\x00\x00\x00\x00\x00\x00\x00\x00\x00\x00\x00\x00\x04\x00\x00\x00\x01" + "a" + "\xfa\x9e"},
		{api.Segment{Rst: true, Win: 1, Opts: []api.Option{{Kind: api.Fail, Dsn: 0x01020304}}},
			"\x00\x00\x00\x00\x00\x00\x00\x00\x00\x00\x00\x00\x00\x00\x08\x00\x01\x01\x00" + "\x09\x01\x02\x03\x04" + "\xf2\xef"},
		{api.Segment{Syn: true, Opts: []api.Option{{Kind: api.Prio, Backup: true}, {Kind: api.Add, Addr: 3}}, Data: []byte("abcdefgh")},
			"\x00\x00\x00\x00\x00\x00\x00\x00\x00\x00\x00\x00\x00\x00\x01\x00\x00\x02\x08" + "\x08\x01\x06\x03" + "abcdefgh" + "\x00" + "\x5d\x5e"},
	} {
		putsAndGets(t, place(i), made{m.s, []byte(m.want)})
	}
}

// Each number with the least and the greatest that it may be, alone and beside all the others.
func TestBytesOfEachNumber(t *testing.T) {
	for _, one := range parts {
		for _, n := range one.values() {
			for when, others := range map[string]func(part) uint64{"alone": least, "beside all others": most, "beside others": mixed} {
				m := build(func(p part) uint64 {
					if p.name == one.name {
						return n
					}
					return others(p)
				}, options[:1], "ab")
				putsAndGets(t, fmt.Sprintf("%s %d, %s", one.name, n, when), m)
			}
		}
	}
}

// values are what a number is tried with: the least and the greatest that it may be, and others, of some of which no two bytes are alike.
func (p part) values() []uint64 {
	l := []uint64{0, 1, p.greatest, p.greatest - 1}
	for _, n := range []uint64{2, 3, 4, 8, 127, 128, 255, 256, 0x1234, 0x8000, 65535, 65536, 0x01020304, 1 << 31} {
		if n < p.greatest {
			l = append(l, n)
		}
	}
	return l
}

func TestBytesOfFlags(t *testing.T) {
	for i, s := range []api.Segment{
		{},
		{Syn: true},
		{Acks: true},
		{Syn: true, Acks: true},
		{Fin: true},
		{Fin: true, Syn: true},
		{Fin: true, Acks: true},
		{Fin: true, Syn: true, Acks: true},
		{Rst: true},
		{Rst: true, Syn: true},
		{Rst: true, Acks: true},
		{Rst: true, Syn: true, Acks: true},
		{Rst: true, Fin: true},
		{Rst: true, Fin: true, Syn: true},
		{Rst: true, Fin: true, Acks: true},
		{Rst: true, Fin: true, Syn: true, Acks: true},
	} {
		b := make([]byte, ahead)
		b[flagsAt] = byte(i)
		putsAndGets(t, fmt.Sprintf("flags %d", i), made{s, seal(b)})
	}
}

// No option up to four, no byte of data up to eight; the whole is odd without the 0 in half of them.
func TestBytesOfOptionsAndData(t *testing.T) {
	odd, even := 0, 0
	for many := range 5 {
		for from := range len(options) - many + 1 {
			for n := range 9 {
				m := build(mixed, options[from:from+many], "ABCDEFGH"[:n])
				putsAndGets(t, fmt.Sprintf("%d options from %d on, %d bytes", many, from, n), m)
				long := ahead + n
				for _, o := range options[from : from+many] {
					long += len(o.b)
				}
				if long%2 == 0 {
					even++
				} else {
					odd++
					long++
				}
				if b, _ := segment.Put(m.s); len(b) != long+2 {
					t.Errorf("%d bytes, not %d", len(b), long+2)
				}
			}
		}
	}
	if odd == 0 || even == 0 {
		t.Errorf("%d odd ones, %d even ones", odd, even)
	}
}

func TestBytesOfSamples(t *testing.T) {
	for i, m := range samples() {
		putsAndGets(t, place(i), m)
	}
}

// The two bytes behind all others are the sum of these.
func TestSumIsBehind(t *testing.T) {
	for _, m := range samples() {
		b, e := segment.Put(m.s)
		if e != api.OK || len(b)%2 != 0 || binary.BigEndian.Uint16(b[len(b)-2:]) != sumOf(b[:len(b)-2]) {
			t.Errorf("Put(%+v): %x, %d", m.s, b, e)
		}
	}
}

// P8.1, Right and Put's ErrArg

func TestRightOfEachNumber(t *testing.T) {
	for _, c := range []struct {
		name     string
		greatest int
		set      func(s *api.Segment, n int)
	}{
		{"Src", 3, func(s *api.Segment, n int) { s.Src = n }},
		{"Dst", 3, func(s *api.Segment, n int) { s.Dst = n }},
		{"SPort", 65535, func(s *api.Segment, n int) { s.SPort = n }},
		{"DPort", 65535, func(s *api.Segment, n int) { s.DPort = n }},
		{"Win", 65535, func(s *api.Segment, n int) { s.Win = n }},
	} {
		for _, base := range []api.Segment{{}, full().s} {
			for _, n := range []int{0, 1, c.greatest - 1, c.greatest} {
				c.set(&base, n)
				if b, e := segment.Put(base); !segment.Right(base) || len(b) == 0 || e != api.OK {
					t.Errorf("%s %d: Put: %x, %d", c.name, n, b, e)
				}
			}
			for _, n := range []int{-1, -2, -3, -255, -256, -65535, -65536, -all4, -all4 - 1, math.MinInt32, math.MinInt, math.MinInt + 1,
				c.greatest + 1, c.greatest + 2, 65536, 65537, 1 << 24, 1 << 32, 1<<32 + 1, 1 << 40, math.MaxInt32, math.MaxInt - 1, math.MaxInt} {
				c.set(&base, n)
				notRight(t, fmt.Sprintf("%s %d", c.name, n), base)
			}
		}
	}
	for n := range 300 {
		if got := segment.Right(api.Segment{Src: n}); got != (n <= 3) {
			t.Errorf("Src %d: %v", n, got)
		}
		if got := segment.Right(api.Segment{Dst: n}); got != (n <= 3) {
			t.Errorf("Dst %d: %v", n, got)
		}
	}
}

func TestRightOfHowManyOptions(t *testing.T) {
	for many := range 12 {
		s := api.Segment{Opts: slices.Repeat([]api.Option{{Kind: api.Add, Addr: 1}}, many)}
		if many > 4 {
			notRight(t, fmt.Sprintf("%d options", many), s)
		} else if b, e := segment.Put(s); !segment.Right(s) || len(b) == 0 || e != api.OK {
			t.Errorf("%d options: Put: %x, %d", many, b, e)
		}
	}
	for _, many := range []int{255, 256, 257, 260, 65536, 65540} {
		notRight(t, fmt.Sprintf("%d options", many), api.Segment{Opts: slices.Repeat([]api.Option{{Kind: api.Prio}}, many)})
	}
}

func TestRightOfHowManyBytes(t *testing.T) {
	for many := range 30 {
		s := api.Segment{Data: make([]byte, many)}
		if many > 8 {
			notRight(t, fmt.Sprintf("%d bytes", many), s)
		} else if b, e := segment.Put(s); !segment.Right(s) || len(b) == 0 || e != api.OK {
			t.Errorf("%d bytes: Put: %x, %d", many, b, e)
		}
	}
	for _, many := range []int{255, 256, 257, 264, 65536, 65544, 1 << 20} {
		notRight(t, fmt.Sprintf("%d bytes", many), api.Segment{Data: make([]byte, many)})
	}
}

// One option that isn't right, at each place of one to four.
func TestRightOfOptionsThatAreNot(t *testing.T) {
	for _, wrong := range wrongOptions {
		for many := 1; many <= 4; many++ {
			for at := range many {
				for _, s := range []api.Segment{{}, full().s} {
					s.Opts = nil
					for _, o := range options[:many] {
						s.Opts = append(s.Opts, o.o)
					}
					s.Opts[at] = wrong
					notRight(t, fmt.Sprintf("%+v, at %d of %d", wrong, at, many), s)
				}
			}
		}
	}
}

// Spare room is no option, and no data.
func TestRightGoesNoFurther(t *testing.T) {
	s := api.Segment{Opts: append([]api.Option{{Kind: api.Prio}}, wrongOptions...)[:1], Data: make([]byte, 300)[:8]}
	if b, e := segment.Put(s); !segment.Right(s) || len(b) != 32 || e != api.OK {
		t.Errorf("Put: %x, %d", b, e)
	}
}

// P8.2, Long

func TestLong(t *testing.T) {
	for _, n := range []int{0, 1, 2, 7, 8, 9, 300, 1 << 20} {
		for flags := range 16 {
			s := api.Segment{Data: make([]byte, n)}
			parts[6].set(&s, uint64(flags))
			want := n + flags&1 + flags>>2&1
			if got := segment.Long(s); got != want {
				t.Errorf("%d bytes, flags %d: %d, not %d", n, flags, got, want)
			}
			// Nothing else has numbers.
			s.Src, s.Dst, s.SPort, s.DPort, s.Seq, s.Ack, s.Win = 3, -3, 70000, -1, all4, 5, math.MinInt
			s.Opts = []api.Option{{Kind: api.Dss, HasMap: true, Len: 8, Fin: true}, {}, {}, {}, {}, {}}
			if got := segment.Long(s); got != want {
				t.Errorf("%d bytes, flags %d, other fields: %d, not %d", n, flags, got, want)
			}
		}
	}
	for i, c := range []struct {
		s    api.Segment
		want int
	}{
		{api.Segment{}, 0},
		{api.Segment{Syn: true}, 1},
		{api.Segment{Fin: true}, 1},
		{api.Segment{Syn: true, Fin: true}, 2},
		{api.Segment{Acks: true, Rst: true}, 0},
		{api.Segment{Data: []byte("abc")}, 3},
		{api.Segment{Data: []byte("abc"), Syn: true}, 4},
		{api.Segment{Data: []byte("abc"), Fin: true}, 4},
		{api.Segment{Data: []byte("abcdefgh"), Syn: true, Fin: true}, 10},
		{api.Segment{Data: []byte{}}, 0},
		{api.Segment{Data: []byte("abcdefgh")[:2]}, 2},
	} {
		if got := segment.Long(c.s); got != c.want {
			t.Errorf("%d: Long(%+v): %d, not %d", i, c.s, got, c.want)
		}
	}
}

// P8.2, Reply

func TestReply(t *testing.T) {
	for _, c := range []struct{ s, want api.Segment }{
		{api.Segment{}, api.Segment{}},
		{
			api.Segment{Src: 1, Dst: 2, SPort: 3, DPort: 4, Seq: 5, Ack: 6, Syn: true, Acks: true, Fin: true, Rst: true, Win: 7, Opts: []api.Option{{Kind: api.Prio, Backup: true}}, Data: []byte("abc")},
			api.Segment{Src: 2, Dst: 1, SPort: 4, DPort: 3},
		},
		{api.Segment{Src: 3}, api.Segment{Dst: 3}},
		{api.Segment{Dst: 3}, api.Segment{Src: 3}},
		{api.Segment{SPort: 65535}, api.Segment{DPort: 65535}},
		{api.Segment{DPort: 65535}, api.Segment{SPort: 65535}},
		// Whether it is right isn't asked.
		{api.Segment{Src: -1, Dst: 4, SPort: 65536, DPort: -1}, api.Segment{Src: 4, Dst: -1, SPort: -1, DPort: 65536}},
		{
			api.Segment{Src: math.MinInt, Dst: math.MaxInt, SPort: math.MaxInt - 1, DPort: math.MinInt + 1, Win: -1, Opts: wrongOptions, Data: make([]byte, 300)},
			api.Segment{Src: math.MaxInt, Dst: math.MinInt, SPort: math.MinInt + 1, DPort: math.MaxInt - 1},
		},
	} {
		if got := segment.Reply(c.s); !equal(got, c.want) {
			t.Errorf("Reply(%+v): %+v, not %+v", c.s, got, c.want)
		}
	}
	s := full().s
	if got := segment.Reply(segment.Reply(s)); !equal(got, api.Segment{Src: s.Src, Dst: s.Dst, SPort: s.SPort, DPort: s.DPort}) {
		t.Errorf("Reply, turned about twice: %+v", got)
	}
}

// P8.2, Same

// unlike are ways in which a segment becomes another one.
var unlike = map[string]func(s *api.Segment){
	"Src":                     func(s *api.Segment) { s.Src++ },
	"Src, by 256":             func(s *api.Segment) { s.Src += 256 },
	"Src, turned about":       func(s *api.Segment) { s.Src = -1 - s.Src },
	"Dst":                     func(s *api.Segment) { s.Dst++ },
	"Dst, by 2^32":            func(s *api.Segment) { s.Dst += 1 << 32 },
	"SPort":                   func(s *api.Segment) { s.SPort++ },
	"SPort, by 65536":         func(s *api.Segment) { s.SPort += 65536 },
	"DPort":                   func(s *api.Segment) { s.DPort++ },
	"DPort, by 65536":         func(s *api.Segment) { s.DPort -= 65536 },
	"Seq":                     func(s *api.Segment) { s.Seq++ },
	"Seq, its highest bit":    func(s *api.Segment) { s.Seq ^= 1 << 31 },
	"Ack":                     func(s *api.Segment) { s.Ack++ },
	"Ack, its highest bit":    func(s *api.Segment) { s.Ack ^= 1 << 31 },
	"Syn":                     func(s *api.Segment) { s.Syn = !s.Syn },
	"Acks":                    func(s *api.Segment) { s.Acks = !s.Acks },
	"Fin":                     func(s *api.Segment) { s.Fin = !s.Fin },
	"Rst":                     func(s *api.Segment) { s.Rst = !s.Rst },
	"Win":                     func(s *api.Segment) { s.Win++ },
	"Win, by 65536":           func(s *api.Segment) { s.Win += 65536 },
	"an option more":          func(s *api.Segment) { s.Opts = append(slices.Clone(s.Opts), api.Option{}) },
	"a byte more":             func(s *api.Segment) { s.Data = append(slices.Clone(s.Data), 0) },
	"256 options more":        func(s *api.Segment) { s.Opts = append(slices.Clone(s.Opts), make([]api.Option, 256)...) },
	"256 bytes more":          func(s *api.Segment) { s.Data = append(slices.Clone(s.Data), make([]byte, 256)...) },
	"an option more at front": func(s *api.Segment) { s.Opts = append([]api.Option{{Kind: api.Prio}}, s.Opts...) },
	"a byte more at front":    func(s *api.Segment) { s.Data = append([]byte{'z'}, s.Data...) },
}

// unlikeOption are ways in which an option becomes another one.
var unlikeOption = map[string]func(o *api.Option){
	"Kind":   func(o *api.Option) { o.Kind++ },
	"Key":    func(o *api.Option) { o.Key ^= 1 << 63 },
	"Mac":    func(o *api.Option) { o.Mac++ },
	"Token":  func(o *api.Option) { o.Token ^= 1 << 31 },
	"Nonce":  func(o *api.Option) { o.Nonce++ },
	"Addr":   func(o *api.Option) { o.Addr += 256 },
	"Reason": func(o *api.Option) { o.Reason++ },
	"Backup": func(o *api.Option) { o.Backup = !o.Backup },
	"HasAck": func(o *api.Option) { o.HasAck = !o.HasAck },
	"Ack":    func(o *api.Option) { o.Ack++ },
	"HasMap": func(o *api.Option) { o.HasMap = !o.HasMap },
	"Dsn":    func(o *api.Option) { o.Dsn += 1 << 32 },
	"Len":    func(o *api.Option) { o.Len++ },
	"Fin":    func(o *api.Option) { o.Fin = !o.Fin },
}

// copied is s in memory of its own.
func copied(s api.Segment) api.Segment {
	s.Opts, s.Data = slices.Clone(s.Opts), slices.Clone(s.Data)
	return s
}

// differ tells whether a and b aren't the same, either way about.
func differ(t *testing.T, when string, a, b api.Segment) {
	t.Helper()
	if segment.Same(a, b) || segment.Same(b, a) {
		t.Errorf("%s: %+v and %+v are the same", when, a, b)
	}
	if !segment.Same(b, copied(b)) {
		t.Errorf("%s: %+v isn't the same as itself", when, b)
	}
}

// Those that are the same, and those that differ in one thing; whether they are right isn't asked.
func TestSame(t *testing.T) {
	bases := []api.Segment{{}, full().s, {Src: -1, Dst: math.MaxInt - 1<<33, SPort: -1, Win: 65536, Opts: wrongOptions, Data: make([]byte, 300)}}
	for _, m := range samples() {
		bases = append(bases, m.s)
	}
	for _, a := range bases {
		if !segment.Same(a, a) || !segment.Same(a, copied(a)) {
			t.Errorf("%+v isn't the same as itself", a)
		}
		for name, change := range unlike {
			b := copied(a)
			change(&b)
			differ(t, name, a, b)
		}
		for at := range a.Opts {
			for name, change := range unlikeOption {
				b := copied(a)
				change(&b.Opts[at])
				differ(t, fmt.Sprintf("%s of the option at %d", name, at), a, b)
			}
		}
		for at := range a.Data {
			for _, bit := range []byte{1, 128} {
				b := copied(a)
				b.Data[at] ^= bit
				differ(t, fmt.Sprintf("the byte at %d", at), a, b)
			}
		}
		if len(a.Opts) > 0 {
			b := copied(a)
			b.Opts = b.Opts[:len(b.Opts)-1]
			differ(t, "an option less", a, b)
			b.Opts = nil
			differ(t, "no option", a, b)
		}
		if len(a.Data) > 0 {
			b := copied(a)
			b.Data = b.Data[:len(b.Data)-1]
			differ(t, "a byte less", a, b)
			b.Data = nil
			differ(t, "no byte", a, b)
		}
	}
}

// All that is in two segments counts, each thing where it stands.
func TestSameOfThingsElsewhere(t *testing.T) {
	a, b := options[0].o, options[1].o
	differ(t, "options turned about", api.Segment{Opts: []api.Option{a, b}}, api.Segment{Opts: []api.Option{b, a}})
	differ(t, "data turned about", api.Segment{Data: []byte("ab")}, api.Segment{Data: []byte("ba")})
	differ(t, "addresses turned about", api.Segment{Src: 1, Dst: 2}, api.Segment{Src: 2, Dst: 1})
	differ(t, "ports turned about", api.Segment{SPort: 1, DPort: 2}, api.Segment{SPort: 2, DPort: 1})
	differ(t, "numbers turned about", api.Segment{Seq: 1, Ack: 2}, api.Segment{Seq: 2, Ack: 1})
	flags := []api.Segment{{Syn: true}, {Acks: true}, {Fin: true}, {Rst: true}, {}}
	for i, one := range flags {
		for _, other := range flags[i+1:] {
			differ(t, "flags", one, other)
		}
	}
}

func TestSameOfNilAndEmpty(t *testing.T) {
	for _, m := range []made{{}, full()} {
		none, empty, room := m.s, m.s, m.s
		none.Opts, none.Data = nil, nil
		empty.Opts, empty.Data = []api.Option{}, []byte{}
		room.Opts, room.Data = m.s.Opts[:0], m.s.Data[:0]
		mixed := none
		mixed.Data = []byte{}
		all := []api.Segment{none, empty, room, mixed}
		for _, a := range all {
			for _, b := range all {
				if !segment.Same(a, b) {
					t.Errorf("%#v and %#v aren't the same", a, b)
				}
			}
			putsAndGets(t, "nil or empty", made{a, seal(append(open(m.headAlone())[:optsAt], 0, 0))})
			if segment.Long(a) != segment.Long(none) {
				t.Errorf("Long(%#v): %d", a, segment.Long(a))
			}
		}
	}
}

// headAlone is m's bytes without options and data.
func (m made) headAlone() []byte {
	m.s.Opts, m.s.Data = nil, nil
	b, _ := segment.Put(m.s)
	return b
}

// Spare room counts nothing.
func TestSameGoesNoFurther(t *testing.T) {
	a := api.Segment{Opts: []api.Option{options[0].o, options[1].o}[:1], Data: []byte("abc")[:2]}
	b := api.Segment{Opts: []api.Option{options[0].o, options[2].o}[:1], Data: []byte("abd")[:2]}
	if !segment.Same(a, b) || !segment.Same(a, copied(a)) {
		t.Errorf("%+v and %+v aren't the same", a, b)
	}
}
