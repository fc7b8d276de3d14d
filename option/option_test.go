package option_test

import (
	"bytes"
	"encoding/binary"
	"fmt"
	"math"
	"slices"
	"testing"

	"ferrybridge/api"
	"ferrybridge/option"
)

// part is a field as the chapter's table has it: how many bytes it has (0: a truth), the greatest number that it may be, and how a number is set there.
type part struct {
	name     string
	wide     int
	greatest uint64
	set      func(o *api.Option, n uint64)
}

const (
	all4 = 1<<32 - 1
	all8 = 1<<64 - 1
)

var (
	key    = part{"Key", 8, all8, func(o *api.Option, n uint64) { o.Key = n }}
	mac    = part{"Mac", 8, all8, func(o *api.Option, n uint64) { o.Mac = n }}
	token  = part{"Token", 4, all4, func(o *api.Option, n uint64) { o.Token = uint32(n) }}
	nonce  = part{"Nonce", 4, all4, func(o *api.Option, n uint64) { o.Nonce = uint32(n) }}
	addr   = part{"Addr", 1, 3, func(o *api.Option, n uint64) { o.Addr = int(n) }}
	reason = part{"Reason", 1, 255, func(o *api.Option, n uint64) { o.Reason = int(n) }}
	backup = part{"Backup", 0, 1, func(o *api.Option, n uint64) { o.Backup = n == 1 }}
	hasAck = part{"HasAck", 0, 1, func(o *api.Option, n uint64) { o.HasAck = n == 1 }}
	ack    = part{"Ack", 4, all4, func(o *api.Option, n uint64) { o.Ack = int(n) }}
	hasMap = part{"HasMap", 0, 1, func(o *api.Option, n uint64) { o.HasMap = n == 1 }}
	dsn    = part{"Dsn", 4, all4, func(o *api.Option, n uint64) { o.Dsn = int(n) }}
	length = part{"Len", 1, 8, func(o *api.Option, n uint64) { o.Len = int(n) }}
	fin    = part{"Fin", 0, 1, func(o *api.Option, n uint64) { o.Fin = n == 1 }}

	parts = []part{key, mac, token, nonce, addr, reason, backup, hasAck, ack, hasMap, dsn, length, fin}
)

// table is the chapter's table of kinds.
var table = []struct {
	name  string
	kind  int
	parts []part
}{
	{"Capable", 1, []part{key}},
	{"Join", 2, []part{token, nonce, addr, backup}},
	{"JoinBack", 3, []part{mac, nonce}},
	{"JoinEnd", 4, []part{mac}},
	{"Dss", 5, []part{hasAck, ack, hasMap, dsn, length, fin}},
	{"Add", 6, []part{addr}},
	{"Remove", 7, []part{addr}},
	{"Prio", 8, []part{backup}},
	{"Fail", 9, []part{dsn}},
	{"Fast", 10, []part{key}},
	{"Reset", 11, []part{reason}},
}

// noKinds are kinds that there aren't, which a byte can't all tell.
var noKinds = []int{math.MinInt, math.MinInt + 1, math.MinInt32, -257, -256, -255, -11, -5, -2, -1, 0, 12, 13, 16, 127, 128, 255, 256, 257, 261, 267, 1<<32 + 5, math.MaxInt32, math.MaxInt - 1, math.MaxInt}

// values are what a field is tried with: the least and the greatest that it may be, and some between, of which no two bytes are alike.
func (p part) values() []uint64 {
	l := []uint64{0, 1, p.greatest}
	for _, n := range []uint64{2, 7, 0x7f, 0x80, 0x1234, 0x01020304, 1 << 31, 0x0102030405060708, 1 << 63, p.greatest - 1} {
		if n < p.greatest {
			l = append(l, n)
		}
	}
	return l
}

// put is n as p's bytes, by another way than the program's.
func (p part) put(n uint64) []byte {
	return binary.BigEndian.AppendUint64(nil, n)[8-p.long():]
}

func (p part) long() int {
	return max(p.wide, 1)
}

// needs is the truth without which p is nothing, of Dss.
func (p part) needs(kind int) string {
	if kind != 5 {
		return ""
	}
	switch p.name {
	case "Ack":
		return "HasAck"
	case "Dsn", "Len", "Fin":
		return "HasMap"
	}
	return ""
}

// made is an option with its bytes, and where in them each of its fields is.
type made struct {
	o     api.Option
	b     []byte
	where map[string]int
}

// build lays an option of a kind by a number for each of its fields.
func build(kind int, l []part, n func(p part) uint64) made {
	m := made{o: api.Option{Kind: kind}, b: []byte{byte(kind)}, where: map[string]int{}}
	for _, p := range l {
		m.where[p.name] = len(m.b)
		m.b = append(m.b, p.put(n(p))...)
		p.set(&m.o, n(p))
	}
	return m
}

// rights are options that are right: of each kind the least, the greatest, one field after the other with each of its values, alone and beside all others, and one of which no two bytes are alike.
func rights() []made {
	var l []made
	for _, k := range table {
		l = append(l, build(k.kind, k.parts, func(part) uint64 { return 0 }), build(k.kind, k.parts, func(p part) uint64 { return p.greatest }))
		for _, one := range k.parts {
			for _, n := range one.values() {
				alone := build(k.kind, k.parts, func(p part) uint64 {
					switch p.name {
					case one.name:
						return n
					case one.needs(k.kind):
						return 1
					}
					return 0
				})
				beside := build(k.kind, k.parts, func(p part) uint64 {
					if p.name == one.name {
						return n
					}
					return p.greatest
				})
				l = append(l, alone, beside)
			}
		}
		l = append(l, build(k.kind, k.parts, func(p part) uint64 { return min(p.greatest, 0xa1b2c3d4e5f60718>>(64-8*p.long())) }))
	}
	// A truth that isn't set leaves, of Dss, what needs it: that one isn't right.
	return slices.DeleteFunc(l, func(m made) bool { return !agrees(m.o) })
}

// agrees tells of Dss whether what needs a truth stands beside it.
func agrees(o api.Option) bool {
	if o.Kind != 5 {
		return true
	}
	return (o.HasAck || o.Ack == 0) && (o.HasMap || o.Dsn == 0 && o.Len == 0 && !o.Fin)
}

// wrongs are options that aren't right, each with what is wrong with it.
func wrongs() map[string]api.Option {
	l := map[string]api.Option{}
	for _, kind := range noKinds {
		l[fmt.Sprintf("kind %d", kind)] = api.Option{Kind: kind}
		l[fmt.Sprintf("kind %d with an Addr", kind)] = api.Option{Kind: kind, Addr: 1}
		l[fmt.Sprintf("kind %d with all of Dss", kind)] = api.Option{Kind: kind, HasAck: true, Ack: 1, HasMap: true, Dsn: 1, Len: 1, Fin: true}
	}
	for _, k := range table {
		for _, p := range parts {
			if slices.ContainsFunc(k.parts, func(q part) bool { return q.name == p.name }) {
				continue
			}
			// A field that the kind doesn't have, alone, and beside all that it has.
			for _, n := range []uint64{1, p.greatest, 1 << 31 % max(p.greatest, 2)} {
				if n == 0 {
					continue
				}
				less, more := api.Option{Kind: k.kind}, build(k.kind, k.parts, func(p part) uint64 { return p.greatest }).o
				p.set(&less, n)
				p.set(&more, n)
				l[fmt.Sprintf("%s with %s %d", k.name, p.name, n)] = less
				l[fmt.Sprintf("%s, full, with %s %d", k.name, p.name, n)] = more
			}
		}
		for _, p := range k.parts {
			for _, n := range p.outside() {
				o := build(k.kind, k.parts, func(p part) uint64 { return p.greatest }).o
				p.set(&o, uint64(n))
				l[fmt.Sprintf("%s with %s %d", k.name, p.name, n)] = o
			}
		}
	}
	// A number below 0 in a field that the kind doesn't have.
	for _, kind := range []int{1, 2, 3, 5, 6, 8, 9, 11} {
		for _, o := range []api.Option{{Addr: -1}, {Reason: -1}, {Ack: -1}, {Dsn: -1}, {Len: -1}} {
			o.Kind = kind
			l[fmt.Sprintf("%+v", o)] = o
		}
	}
	for _, o := range []api.Option{
		{Ack: 1}, {Ack: all4}, {Ack: -1}, {Ack: 1, HasMap: true, Dsn: 1, Len: 1, Fin: true},
		{Dsn: 1}, {Dsn: all4}, {Dsn: -1}, {Dsn: 1, HasAck: true, Ack: 1},
		{Len: 1}, {Len: 8}, {Len: 9}, {Len: -1}, {Len: 1, HasAck: true, Ack: 1},
		{Fin: true}, {Fin: true, HasAck: true, Ack: 1},
		{Dsn: 1, Len: 1, Fin: true}, {Ack: 1, Dsn: 1, Len: 1, Fin: true}, {HasAck: true, Ack: 1, Dsn: 1, Len: 1, Fin: true},
		{HasMap: true, Len: 9}, {HasMap: true, Len: -1}, {HasAck: true, HasMap: true, Len: 9}, {HasMap: true, Len: 255, Fin: true},
	} {
		o.Kind = 5
		l[fmt.Sprintf("%+v", o)] = o
	}
	return l
}

// outside are numbers that p's field may not be: below 0, or beyond what is allowed; none of those that are told without a sign, which all fit.
func (p part) outside() []int {
	switch p.name {
	case "Addr":
		return []int{-1, -4, -253, -255, -256, math.MinInt, 4, 5, 255, 256, 257, 1 << 32, math.MaxInt}
	case "Reason":
		return []int{-1, -255, -256, math.MinInt, 256, 257, 511, 1 << 32, math.MaxInt}
	case "Len":
		return []int{-1, -8, -248, -256, math.MinInt, 9, 10, 255, 256, 257, 264, 1 << 32, math.MaxInt}
	case "Ack", "Dsn":
		return []int{-1, -2, -all4, -all4 - 1, math.MinInt32, math.MinInt, all4 + 1, all4 + 2, 1 << 33, 1 << 40, math.MaxInt}
	}
	return nil
}

// spoilt are bytes that are all there, and tell nothing that is right.
func spoilt() map[string][]byte {
	l := map[string][]byte{}
	add := func(when string, m made, at int, b ...byte) {
		c := bytes.Clone(m.b)
		copy(c[at:], b)
		l[when] = c
	}
	for _, k := range table {
		least := build(k.kind, k.parts, func(part) uint64 { return 0 })
		most := build(k.kind, k.parts, func(p part) uint64 { return p.greatest })
		for _, p := range k.parts {
			for _, n := range []byte{2, 3, 0x7f, 0x80, 0x81, 0xfe, 0xff} {
				if p.wide == 0 {
					add(fmt.Sprintf("%s, least, with %s %d", k.name, p.name, n), least, least.where[p.name], n)
					add(fmt.Sprintf("%s, most, with %s %d", k.name, p.name, n), most, most.where[p.name], n)
				}
			}
			if p.name == "Addr" {
				for _, n := range []byte{4, 5, 7, 128, 252, 255} {
					add(fmt.Sprintf("%s, least, with Addr %d", k.name, n), least, least.where["Addr"], n)
					add(fmt.Sprintf("%s, most, with Addr %d", k.name, n), most, most.where["Addr"], n)
				}
			}
			if p.name == "Len" {
				for _, n := range []byte{9, 10, 16, 128, 255} {
					add(fmt.Sprintf("Dss with Len %d", n), most, most.where["Len"], n)
				}
			}
			if need := p.needs(k.kind); need != "" {
				// Alone, beside the other truth, and beside all but the truth that it needs.
				other := map[string]string{"HasAck": "HasMap", "HasMap": "HasAck"}[need]
				one := p.put(1)
				add(fmt.Sprintf("Dss with %s alone", p.name), least, least.where[p.name], one...)
				beside := made{b: bytes.Clone(least.b)}
				beside.b[least.where[other]] = 1
				add(fmt.Sprintf("Dss with %s and %s", p.name, other), beside, least.where[p.name], one...)
				add(fmt.Sprintf("Dss with all but %s", need), most, most.where[need], 0)
				high := p.put(1)
				slices.Reverse(high)
				add(fmt.Sprintf("Dss with %s alone, its highest byte", p.name), least, least.where[p.name], high...)
			}
		}
	}
	return l
}

// guarded is a slice with spare room behind it; what stands in both is known.
type guarded struct{ given, whole, was []byte }

func guard(b []byte, spare string) guarded {
	whole := append(bytes.Clone(b), spare...)
	return guarded{given: whole[:len(b)], whole: whole, was: bytes.Clone(whole)}
}

func (g guarded) check(t *testing.T, when string) {
	t.Helper()
	if !bytes.Equal(g.whole, g.was) {
		t.Errorf("%s: %x became %x", when, g.was, g.whole)
	}
}

// scribble writes over all of b, spare room included.
func scribble(b []byte) {
	b = b[:cap(b)]
	for i := range b {
		b[i] ^= 0xff
	}
}

// refused tells whether Get of b answers that error, and nothing beside it.
func refused(t *testing.T, when string, b []byte, want api.Errno) {
	t.Helper()
	if o, rest, e := option.Get(b); o != (api.Option{}) || len(rest) != 0 || e != want {
		t.Errorf("%s: Get(%x): %+v, %x, %d, not %d", when, b, o, rest, e, want)
	}
}

// The chapter's example

func TestExample(t *testing.T) {
	b, e := option.Put(api.Option{Kind: api.Prio, Backup: true})
	if string(b) != "\x08\x01" || e != api.OK {
		t.Errorf("Put of Prio with Backup: %x, %d", b, e)
	}
}

// P7.1, the bytes of each kind

func TestBytesAreAsWritten(t *testing.T) {
	for _, c := range []struct {
		o    api.Option
		want string
	}{
		{api.Option{Kind: api.Capable}, "\x01\x00\x00\x00\x00\x00\x00\x00\x00"},
		{api.Option{Kind: api.Capable, Key: 0x0102030405060708}, "\x01\x01\x02\x03\x04\x05\x06\x07\x08"},
		{api.Option{Kind: api.Capable, Key: all8}, "\x01\xff\xff\xff\xff\xff\xff\xff\xff"},
		{api.Option{Kind: api.Join}, "\x02\x00\x00\x00\x00\x00\x00\x00\x00\x00\x00"},
		{api.Option{Kind: api.Join, Token: 0x01020304, Nonce: 0x05060708, Addr: 2, Backup: true}, "\x02\x01\x02\x03\x04\x05\x06\x07\x08\x02\x01"},
		{api.Option{Kind: api.Join, Token: all4, Nonce: all4, Addr: 3, Backup: true}, "\x02\xff\xff\xff\xff\xff\xff\xff\xff\x03\x01"},
		{api.Option{Kind: api.JoinBack}, "\x03\x00\x00\x00\x00\x00\x00\x00\x00\x00\x00\x00\x00"},
		{api.Option{Kind: api.JoinBack, Mac: 0x0102030405060708, Nonce: 0x090a0b0c}, "\x03\x01\x02\x03\x04\x05\x06\x07\x08\x09\x0a\x0b\x0c"},
		{api.Option{Kind: api.JoinBack, Mac: all8, Nonce: all4}, "\x03\xff\xff\xff\xff\xff\xff\xff\xff\xff\xff\xff\xff"},
		{api.Option{Kind: api.JoinEnd}, "\x04\x00\x00\x00\x00\x00\x00\x00\x00"},
		{api.Option{Kind: api.JoinEnd, Mac: 0x0807060504030201}, "\x04\x08\x07\x06\x05\x04\x03\x02\x01"},
		{api.Option{Kind: api.JoinEnd, Mac: all8}, "\x04\xff\xff\xff\xff\xff\xff\xff\xff"},
		{api.Option{Kind: api.Dss}, "\x05\x00\x00\x00\x00\x00\x00\x00\x00\x00\x00\x00\x00"},
		{api.Option{Kind: api.Dss, HasAck: true}, "\x05\x01\x00\x00\x00\x00\x00\x00\x00\x00\x00\x00\x00"},
		{api.Option{Kind: api.Dss, HasAck: true, Ack: 0x01020304}, "\x05\x01\x01\x02\x03\x04\x00\x00\x00\x00\x00\x00\x00"},
		{api.Option{Kind: api.Dss, HasMap: true}, "\x05\x00\x00\x00\x00\x00\x01\x00\x00\x00\x00\x00\x00"},
		{api.Option{Kind: api.Dss, HasMap: true, Dsn: 0x05060708, Len: 3}, "\x05\x00\x00\x00\x00\x00\x01\x05\x06\x07\x08\x03\x00"},
		{api.Option{Kind: api.Dss, HasMap: true, Fin: true}, "\x05\x00\x00\x00\x00\x00\x01\x00\x00\x00\x00\x00\x01"},
		{api.Option{Kind: api.Dss, HasAck: true, Ack: all4, HasMap: true, Dsn: all4, Len: 8, Fin: true}, "\x05\x01\xff\xff\xff\xff\x01\xff\xff\xff\xff\x08\x01"},
		{api.Option{Kind: api.Add}, "\x06\x00"},
		{api.Option{Kind: api.Add, Addr: 3}, "\x06\x03"},
		{api.Option{Kind: api.Remove}, "\x07\x00"},
		{api.Option{Kind: api.Remove, Addr: 3}, "\x07\x03"},
		{api.Option{Kind: api.Prio}, "\x08\x00"},
		{api.Option{Kind: api.Fail}, "\x09\x00\x00\x00\x00"},
		{api.Option{Kind: api.Fail, Dsn: 0x01020304}, "\x09\x01\x02\x03\x04"},
		{api.Option{Kind: api.Fail, Dsn: all4}, "\x09\xff\xff\xff\xff"},
		{api.Option{Kind: api.Fast}, "\x0a\x00\x00\x00\x00\x00\x00\x00\x00"},
		{api.Option{Kind: api.Fast, Key: all8 - 1}, "\x0a\xff\xff\xff\xff\xff\xff\xff\xfe"},
		{api.Option{Kind: api.Reset}, "\x0b\x00"},
		{api.Option{Kind: api.Reset, Reason: 255}, "\x0b\xff"},
	} {
		if b, e := option.Put(c.o); string(b) != c.want || e != api.OK {
			t.Errorf("Put(%+v): %x, %d, not %x", c.o, b, e, c.want)
		}
		if o, rest, e := option.Get([]byte(c.want)); o != c.o || len(rest) != 0 || e != api.OK {
			t.Errorf("Get(%x): %+v, %x, %d", c.want, o, rest, e)
		}
	}
}

// Each field of each kind, with the least and the greatest that it may be, alone and beside all the others.
func TestBytesOfEachField(t *testing.T) {
	for _, m := range rights() {
		if !option.Right(m.o) {
			t.Errorf("Right(%+v): no", m.o)
		}
		if b, e := option.Put(m.o); !bytes.Equal(b, m.b) || e != api.OK {
			t.Errorf("Put(%+v): %x, %d, not %x", m.o, b, e, m.b)
		}
		if o, rest, e := option.Get(m.b); o != m.o || len(rest) != 0 || e != api.OK {
			t.Errorf("Get(%x): %+v, %x, %d, not %+v", m.b, o, rest, e, m.o)
		}
	}
}

// The table of kinds says what api says, and each field of api's is tried.
func TestTableIsWhole(t *testing.T) {
	kinds := []int{api.Capable, api.Join, api.JoinBack, api.JoinEnd, api.Dss, api.Add, api.Remove, api.Prio, api.Fail, api.Fast, api.Reset}
	if len(table) != len(kinds) {
		t.Fatalf("%d kinds", len(table))
	}
	for i, kind := range kinds {
		if table[i].kind != kind {
			t.Errorf("%s is %d", table[i].name, kind)
		}
	}
	full := api.Option{}
	for _, p := range parts {
		p.set(&full, 1)
	}
	if full != (api.Option{Key: 1, Mac: 1, Token: 1, Nonce: 1, Addr: 1, Reason: 1, Backup: true, HasAck: true, Ack: 1, HasMap: true, Dsn: 1, Len: 1, Fin: true}) {
		t.Errorf("%+v", full)
	}
}

// P7.1, Right

func TestRightOfNoKind(t *testing.T) {
	for _, kind := range noKinds {
		if option.Right(api.Option{Kind: kind}) {
			t.Errorf("Right of kind %d: yes", kind)
		}
		if b, e := option.Put(api.Option{Kind: kind}); len(b) != 0 || e != api.ErrArg {
			t.Errorf("Put of kind %d: %x, %d", kind, b, e)
		}
	}
	for kind := -300; kind <= 300; kind++ {
		if got := option.Right(api.Option{Kind: kind}); got != (kind >= 1 && kind <= 11) {
			t.Errorf("Right of kind %d: %v", kind, got)
		}
	}
}

func TestRightOfWrongs(t *testing.T) {
	for when, o := range wrongs() {
		if option.Right(o) {
			t.Errorf("%s: Right(%+v): yes", when, o)
		}
	}
}

// Each of Addr's numbers, and each of Len's, at their edges.
func TestRightAtEachEdge(t *testing.T) {
	for n := -300; n <= 300; n++ {
		for _, kind := range []int{api.Join, api.Add, api.Remove} {
			if got := option.Right(api.Option{Kind: kind, Addr: n}); got != (n >= 0 && n <= 3) {
				t.Errorf("kind %d with Addr %d: %v", kind, n, got)
			}
		}
		if got := option.Right(api.Option{Kind: api.Dss, HasMap: true, Len: n}); got != (n >= 0 && n <= 8) {
			t.Errorf("Dss with Len %d: %v", n, got)
		}
		if got := option.Right(api.Option{Kind: api.Dss, Len: n}); got != (n == 0) {
			t.Errorf("Dss with Len %d, without HasMap: %v", n, got)
		}
		if got := option.Right(api.Option{Kind: api.Reset, Reason: n}); got != (n >= 0 && n <= 255) {
			t.Errorf("Reset with Reason %d: %v", n, got)
		}
		for _, at := range []int{0, all4} {
			want := at+n >= 0 && at+n <= all4
			if got := option.Right(api.Option{Kind: api.Fail, Dsn: at + n}); got != want {
				t.Errorf("Fail with Dsn %d: %v", at+n, got)
			}
			if got := option.Right(api.Option{Kind: api.Dss, HasMap: true, Dsn: at + n}); got != want {
				t.Errorf("Dss with Dsn %d: %v", at+n, got)
			}
			if got := option.Right(api.Option{Kind: api.Dss, HasAck: true, Ack: at + n}); got != want {
				t.Errorf("Dss with Ack %d: %v", at+n, got)
			}
		}
	}
}

// All ways in which Dss may have its six fields, each 0 or 1.
func TestRightOfDss(t *testing.T) {
	for bits := range 64 {
		is := func(i int) bool { return bits>>i&1 == 1 }
		o := api.Option{Kind: api.Dss, HasAck: is(0), Ack: bits >> 1 & 1, HasMap: is(2), Dsn: bits >> 3 & 1, Len: bits >> 4 & 1, Fin: is(5)}
		want := (is(0) || !is(1)) && (is(2) || !is(3) && !is(4) && !is(5))
		if got := option.Right(o); got != want {
			t.Errorf("Right(%+v): %v", o, got)
		}
		b := []byte{5, byte(bits & 1), 0, 0, 0, byte(bits >> 1 & 1), byte(bits >> 2 & 1), 0, 0, 0, byte(bits >> 3 & 1), byte(bits >> 4 & 1), byte(bits >> 5 & 1)}
		if !want {
			refused(t, "Dss", b, api.ErrForm)
		} else if got, rest, e := option.Get(b); got != o || len(rest) != 0 || e != api.OK {
			t.Errorf("Get(%x): %+v, %x, %d", b, got, rest, e)
		}
	}
}

// P7.1, Put

func TestPutOfNone(t *testing.T) {
	for i, l := range [][]api.Option{nil, {}} {
		if b, e := option.Put(l...); len(b) != 0 || e != api.OK {
			t.Errorf("%d: %x, %d", i, b, e)
		}
	}
	if b, e := option.Put(); len(b) != 0 || e != api.OK {
		t.Errorf("%x, %d", b, e)
	}
}

func TestPutOfSeveral(t *testing.T) {
	a, b, c := api.Option{Kind: api.Add, Addr: 2}, api.Option{Kind: api.Fail, Dsn: 258}, api.Option{Kind: api.Prio, Backup: true}
	for _, one := range []struct {
		l    []api.Option
		want string
	}{
		{[]api.Option{a, b}, "\x06\x02\x09\x00\x00\x01\x02"},
		{[]api.Option{b, a}, "\x09\x00\x00\x01\x02\x06\x02"},
		{[]api.Option{a, a}, "\x06\x02\x06\x02"},
		{[]api.Option{a, b, c}, "\x06\x02\x09\x00\x00\x01\x02\x08\x01"},
		{[]api.Option{c, a, b, a}, "\x08\x01\x06\x02\x09\x00\x00\x01\x02\x06\x02"},
		// More than a segment may have: that is layer 8's to tell.
		{[]api.Option{c, c, c, c, c, c}, "\x08\x01\x08\x01\x08\x01\x08\x01\x08\x01\x08\x01"},
	} {
		if got, e := option.Put(one.l...); string(got) != one.want || e != api.OK {
			t.Errorf("Put(%+v): %x, %d, not %x", one.l, got, e, one.want)
		}
	}
	var l []api.Option
	var want []byte
	for _, m := range rights() {
		l = append(l, m.o)
		want = append(want, m.b...)
		if got, e := option.Put(l...); !bytes.Equal(got, want) || e != api.OK {
			t.Fatalf("Put of %d: %x, %d, not %x", len(l), got, e, want)
		}
	}
}

// One that isn't right, at each place: nothing is put.
func TestPutOfOneThatIsNotRight(t *testing.T) {
	good := []api.Option{{Kind: api.Add, Addr: 2}, {Kind: api.Fail, Dsn: 258}, {Kind: api.Prio, Backup: true}, {Kind: api.Capable, Key: 7}}
	for when, o := range wrongs() {
		if b, e := option.Put(o); len(b) != 0 || e != api.ErrArg {
			t.Errorf("%s: Put(%+v): %x, %d", when, o, b, e)
		}
		for many := 1; many <= len(good); many++ {
			for at := range many + 1 {
				l := slices.Insert(slices.Clone(good[:many]), at, o)
				if b, e := option.Put(l...); len(b) != 0 || e != api.ErrArg {
					t.Errorf("%s, at %d of %d: %x, %d", when, at, many, b, e)
				}
			}
		}
	}
}

// P7.1, Get

func TestGetOfNoBytes(t *testing.T) {
	refused(t, "nil", nil, api.ErrEnd)
	refused(t, "empty", []byte{}, api.ErrEnd)
	refused(t, "empty, with spare room", guard(nil, "\x08\x01").given, api.ErrEnd)
}

// Cut at every place, also where what is there isn't formed so, or where the bytes that are missing stand in the spare room.
func TestGetOfBytesThatEndWithin(t *testing.T) {
	cut := func(when string, b []byte) {
		for n := range b {
			refused(t, when, b[:n:n], api.ErrEnd)
			refused(t, when+", with spare room", b[:n], api.ErrEnd)
		}
	}
	for _, m := range rights() {
		cut(fmt.Sprintf("%+v", m.o), m.b)
	}
	for when, b := range spoilt() {
		cut(when, b)
	}
	for _, k := range table {
		full := bytes.Repeat([]byte{0xff}, len(build(k.kind, k.parts, func(part) uint64 { return 0 }).b))
		full[0] = byte(k.kind)
		cut(k.name+" of ff", full)
	}
}

func TestGetOfNoKind(t *testing.T) {
	behind := [][]byte{{}, {0}, {1}, {8, 1}, bytes.Repeat([]byte{0xff}, 20), make([]byte, 20)}
	for kind := range 256 {
		if kind >= 1 && kind <= 11 {
			continue
		}
		for _, l := range behind {
			refused(t, "no such kind", append([]byte{byte(kind)}, l...), api.ErrForm)
		}
	}
}

func TestGetOfWhatIsNotFormedSo(t *testing.T) {
	for when, b := range spoilt() {
		refused(t, when, b, api.ErrForm)
		refused(t, when+", with bytes behind", append(bytes.Clone(b), 8, 1), api.ErrForm)
	}
	for _, c := range []struct{ when, b string }{
		{"Prio's Backup is 2", "\x08\x02"},
		{"Prio's Backup is 255", "\x08\xff"},
		{"Join's Backup is 2", "\x02\x00\x00\x00\x00\x00\x00\x00\x00\x00\x02"},
		{"Add's Addr is 4", "\x06\x04"},
		{"Remove's Addr is 4", "\x07\x04"},
		{"Join's Addr is 4", "\x02\x00\x00\x00\x00\x00\x00\x00\x00\x04\x00"},
		{"HasAck is 2", "\x05\x02\x00\x00\x00\x00\x00\x00\x00\x00\x00\x00\x00"},
		{"HasMap is 2", "\x05\x00\x00\x00\x00\x00\x02\x00\x00\x00\x00\x00\x00"},
		{"Fin is 2", "\x05\x00\x00\x00\x00\x00\x01\x00\x00\x00\x00\x00\x02"},
		{"Ack without HasAck", "\x05\x00\x00\x00\x00\x01\x00\x00\x00\x00\x00\x00\x00"},
		{"Dsn without HasMap", "\x05\x00\x00\x00\x00\x00\x00\x00\x00\x00\x01\x00\x00"},
		{"Len without HasMap", "\x05\x00\x00\x00\x00\x00\x00\x00\x00\x00\x00\x01\x00"},
		{"Fin without HasMap", "\x05\x00\x00\x00\x00\x00\x00\x00\x00\x00\x00\x00\x01"},
		{"Len is 9", "\x05\x00\x00\x00\x00\x00\x01\x00\x00\x00\x00\x09\x00"},
	} {
		refused(t, c.when, []byte(c.b), api.ErrForm)
	}
}

// What is behind an option may be anything: it is answered as it is.
func TestGetOfBytesBehind(t *testing.T) {
	for _, behind := range [][]byte{nil, {0}, {1}, {8, 1}, {8, 2}, {0xff}, []byte("abcdef"), bytes.Repeat([]byte{0xff}, 300), make([]byte, 300)} {
		for _, m := range rights() {
			o, rest, e := option.Get(append(bytes.Clone(m.b), behind...))
			if o != m.o || !bytes.Equal(rest, behind) || e != api.OK {
				t.Errorf("Get(%x, and %x): %+v, %x, %d", m.b, behind, o, rest, e)
			}
		}
	}
}

// Each byte of each kind's bytes, with each value: what is got has these bytes, and what isn't got isn't formed so.
func TestGetOfEachByte(t *testing.T) {
	for _, k := range table {
		for _, m := range []made{build(k.kind, k.parts, func(part) uint64 { return 0 }), build(k.kind, k.parts, func(p part) uint64 { return p.greatest })} {
			for at := 1; at < len(m.b); at++ {
				for n := range 256 {
					b := bytes.Clone(m.b)
					b[at] = byte(n)
					o, rest, e := option.Get(b)
					if e != api.OK {
						refused(t, k.name, b, api.ErrForm)
						continue
					}
					if again, f := option.Put(o); !option.Right(o) || len(rest) != 0 || !bytes.Equal(again, b) || f != api.OK {
						t.Errorf("Get(%x): %+v, %x, which is put as %x, %d", b, o, rest, again, f)
					}
				}
			}
		}
	}
}

// P7.2

func TestFind(t *testing.T) {
	a, b, c := api.Option{Kind: api.Add, Addr: 1}, api.Option{Kind: api.Add, Addr: 2}, api.Option{Kind: api.Remove, Addr: 3}
	odd, zero := api.Option{Kind: 12, Key: 5}, api.Option{}
	low, wrong := api.Option{Kind: math.MinInt, Addr: -1}, api.Option{Kind: api.Prio, Addr: 9}
	for i, one := range []struct {
		l    []api.Option
		kind int
		want api.Option
		is   bool
	}{
		// the first one of several
		{[]api.Option{a, b}, api.Add, a, true},
		{[]api.Option{b, a}, api.Add, b, true},
		{[]api.Option{c, b, a}, api.Add, b, true},
		{[]api.Option{a, c, b}, api.Add, a, true},
		{[]api.Option{a, b, c}, api.Remove, c, true},
		{[]api.Option{c, a, b}, api.Remove, c, true},
		{[]api.Option{c}, api.Remove, c, true},
		// a kind that isn't there
		{[]api.Option{a, b, c}, api.Prio, zero, false},
		{[]api.Option{a, b, c}, 0, zero, false},
		{[]api.Option{a, b, c}, 12, zero, false},
		{[]api.Option{a, b, c}, -6, zero, false},
		{[]api.Option{a, b, c}, 256 + api.Add, zero, false},
		{[]api.Option{a, b, c}, 1<<32 + api.Add, zero, false},
		{[]api.Option{a, b, c}, math.MinInt, zero, false},
		{[]api.Option{a, b, c}, math.MaxInt, zero, false},
		// of none
		{nil, api.Add, zero, false},
		{[]api.Option{}, api.Add, zero, false},
		{nil, 0, zero, false},
		// whether it is right isn't asked
		{[]api.Option{a, odd, c}, 12, odd, true},
		{[]api.Option{a, low}, math.MinInt, low, true},
		{[]api.Option{a, wrong}, api.Prio, wrong, true},
		{[]api.Option{wrong, a}, api.Add, a, true},
		{[]api.Option{a, zero}, 0, zero, true},
	} {
		if o, is := option.Find(one.l, one.kind); o != one.want || is != one.is {
			t.Errorf("%d: %+v, %v", i, o, is)
		}
	}
}

func TestFindOfEachKind(t *testing.T) {
	var first, l []api.Option
	for _, k := range table {
		first = append(first, build(k.kind, k.parts, func(p part) uint64 { return p.greatest }).o)
		l = append(l, build(k.kind, k.parts, func(part) uint64 { return 0 }).o)
	}
	whole := slices.Concat(first, l)
	for i, k := range table {
		if o, is := option.Find(whole, k.kind); o != first[i] || !is {
			t.Errorf("%s: %+v, %v", k.name, o, is)
		}
		if o, is := option.Find(whole[i+1:], k.kind); o != l[i] || !is {
			t.Errorf("%s, behind the first one: %+v, %v", k.name, o, is)
		}
		if o, is := option.Find(slices.Concat(l[:i], l[i+1:]), k.kind); o != (api.Option{}) || is {
			t.Errorf("%s, where it isn't: %+v, %v", k.name, o, is)
		}
	}
}

// Spare room is no option of the list.
func TestFindGoesNoFurther(t *testing.T) {
	whole := []api.Option{{Kind: api.Add, Addr: 1}, {Kind: api.Remove, Addr: 2}}
	if o, is := option.Find(whole[:1], api.Remove); o != (api.Option{}) || is {
		t.Errorf("%+v, %v", o, is)
	}
}

// P7.3

func TestWhatIsPutIsGot(t *testing.T) {
	var l []api.Option
	for _, m := range rights() {
		l = append(l, m.o)
	}
	for _, turned := range []bool{false, true} {
		if turned {
			slices.Reverse(l)
		}
		b, e := option.Put(l...)
		if e != api.OK {
			t.Fatalf("Put: %d", e)
		}
		for i, want := range l {
			o, rest, e := option.Get(b)
			if o != want || e != api.OK {
				t.Fatalf("%d: %+v, %d, not %+v", i, o, e, want)
			}
			b = rest
		}
		if len(b) != 0 {
			t.Errorf("%x is left", b)
		}
		refused(t, "all are got", b, api.ErrEnd)
	}
}

// R2, R4

func TestGivenIsNotChanged(t *testing.T) {
	whole := []api.Option{{Kind: api.Capable, Key: 5}, {Kind: api.Dss, HasAck: true, Ack: 7, HasMap: true, Dsn: 8, Len: 2, Fin: true}, {Kind: 12, Addr: 9}, {Kind: api.Add, Addr: 1}, {Kind: api.Dss, Ack: 3}}
	was := slices.Clone(whole)
	for many := range len(whole) + 1 {
		option.Put(whole[:many]...)
		option.Put(whole[many:]...)
		for kind := range 14 {
			option.Find(whole[:many], kind)
		}
		for _, o := range whole {
			option.Right(o)
		}
		if !slices.Equal(whole, was) {
			t.Fatalf("%d: the list became %+v", many, whole)
		}
	}
	texts := spoilt()
	for _, m := range rights() {
		texts[fmt.Sprintf("%+v", m.o)] = m.b
	}
	for when, b := range texts {
		for n := range len(b) + 1 {
			g := guard(b[:n], "spare room")
			option.Get(g.given)
			g.check(t, when)
		}
		g := guard(append(bytes.Clone(b), "behind"...), "spare room")
		option.Get(g.given)
		g.check(t, when+", with bytes behind")
	}
}

func TestPutIsNewMemory(t *testing.T) {
	for _, m := range rights() {
		for _, l := range [][]api.Option{{m.o}, {m.o, m.o}, {{Kind: api.Add}, m.o, {Kind: api.Prio}}} {
			was := slices.Clone(l)
			kept, _ := option.Put(l...)
			text := bytes.Clone(kept)
			other, _ := option.Put(l...)
			scribble(other)
			if !bytes.Equal(kept, text) {
				t.Errorf("Put(%+v): an answer shares with an earlier one", l)
			}
			if again, e := option.Put(l...); !bytes.Equal(again, text) || e != api.OK {
				t.Errorf("Put(%+v): %x of %x, once an answer was written over", l, again, text)
			}
			scribble(kept)
			if !slices.Equal(l, was) {
				t.Errorf("%+v became %+v", was, l)
			}
			clear(l)
			if again, e := option.Put(was...); !bytes.Equal(again, text) || e != api.OK {
				t.Errorf("Put(%+v): %x of %x, once the list was cleared", was, again, text)
			}
		}
	}
}

// The bytes behind an option are new ones: those handed in don't change with them, nor they with those.
func TestGetIsNewMemory(t *testing.T) {
	for _, behind := range []string{"", "a", "abcdef", "\x08\x01\x08\x00"} {
		for _, m := range rights() {
			g := guard(append(bytes.Clone(m.b), behind...), "spare room")
			o, kept, _ := option.Get(g.given)
			_, other, _ := option.Get(g.given)
			scribble(other)
			g.check(t, "the answer written over")
			if string(kept) != behind {
				t.Errorf("Get(%x): an answer shares with an earlier one", g.given)
			}
			scribble(g.given)
			if string(kept) != behind || o != m.o {
				t.Errorf("Get: an answer changes with what was handed in: %q, %+v", kept, o)
			}
			whole := bytes.Clone(g.whole)
			scribble(kept)
			if !bytes.Equal(g.whole, whole) {
				t.Errorf("Get: what was handed in changes with an answer")
			}
		}
	}
}

// R1, R5

// answers are what the calls answer of one option, its bytes and a list.
type answers struct {
	right, is bool
	put, rest string
	got, one  api.Option
	e, f      api.Errno
}

func ask(o api.Option, b []byte, l []api.Option) answers {
	var a answers
	a.right = option.Right(o)
	put, e := option.Put(slices.Concat(l, []api.Option{o})...)
	got, rest, f := option.Get(b)
	a.put, a.e, a.got, a.rest, a.f = string(put), e, got, string(rest), f
	a.one, a.is = option.Find(l, o.Kind)
	return a
}

// Asked again each call answers likewise, whatever was asked between, and whatever stands in the spare room.
func TestSameArgumentsSameAnswers(t *testing.T) {
	var options []api.Option
	var texts [][]byte
	for _, m := range rights() {
		options = append(options, m.o)
		texts = append(texts, m.b, append(bytes.Clone(m.b), "behind"...), m.b[:len(m.b)-1])
	}
	for _, o := range wrongs() {
		options = append(options, o)
	}
	for _, b := range spoilt() {
		texts = append(texts, b)
	}
	for i := range max(len(options), len(texts)) {
		o, b := options[i%len(options)], texts[i%len(texts)]
		l := options[i%50 : i%50+i%7]
		first := ask(o, b, l)
		ask(options[(i+1)%len(options)], texts[(i+1)%len(texts)], options)
		ask(api.Option{Kind: math.MinInt}, nil, nil)
		for _, spare := range []string{"", "\x00\x00\x00\x00\x00\x00\x00\x00\x00\x00\x00\x00", "\xff\xff\xff\xff\xff\xff\xff\xff\xff\xff\xff\xff"} {
			if again := ask(o, guard(b, spare).given, slices.Clone(l)); again != first {
				t.Errorf("of %+v, %x: %+v, %+v", o, b, first, again)
			}
		}
	}
}

// Many options are put and got in a time that grows with how many they are.
func TestMany(t *testing.T) {
	l := slices.Repeat([]api.Option{{Kind: api.Add, Addr: 1}, {Kind: api.Fail, Dsn: 5}}, 50000)
	b, e := option.Put(l...)
	if want := bytes.Repeat([]byte{6, 1, 9, 0, 0, 0, 5}, 50000); !bytes.Equal(b, want) || e != api.OK {
		t.Errorf("Put of %d: %d bytes, %d", len(l), len(b), e)
	}
	if o, rest, e := option.Get(b); o != l[0] || !bytes.Equal(rest, b[2:]) || e != api.OK {
		t.Errorf("Get of %d: %+v, %d bytes, %d", len(l), o, len(rest), e)
	}
	if o, is := option.Find(l, api.Prio); o != (api.Option{}) || is {
		t.Errorf("Find in %d: %+v, %v", len(l), o, is)
	}
}
