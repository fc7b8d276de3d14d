package conn_test

import (
	"fmt"
	"slices"
	"strings"
	"testing"

	"ferrybridge/api"
	"ferrybridge/conn"
	"ferrybridge/option"
	"ferrybridge/segment"
)

// The keys, and the ports, of the two sides in these tests.
var (
	keys  = [2]uint64{0x0102030405060708, 0xf1f2f3f4f5f6f7f8}
	ports = [2]int{1025, 80}
)

const hello = "0>1 S capable:0"

// words tells what matters of a segment, but its places, which the flows' chapter tells.
func words(s api.Segment) string {
	l := []string{fmt.Sprint(s.Src, ">", s.Dst, " ")}
	flags := ""
	for _, f := range []struct {
		is   bool
		name string
	}{{s.Syn, "S"}, {s.Acks, "A"}, {s.Fin, "F"}, {s.Rst, "R"}} {
		if f.is {
			flags += f.name
		}
	}
	l[0] = fmt.Sprintf("%d>%d %s", s.Src, s.Dst, flags)
	for _, o := range s.Opts {
		l = append(l, optionWords(o))
	}
	if s.Win != 0 {
		l = append(l, fmt.Sprintf("w%d", s.Win))
	}
	if len(s.Data) > 0 {
		l = append(l, string(s.Data))
	}
	return strings.Join(l, " ")
}

func optionWords(o api.Option) string {
	switch o.Kind {
	case api.Capable:
		return "capable:" + whose(o.Key)
	case api.Join:
		return fmt.Sprintf("join:%d%s", o.Addr, map[bool]string{true: "b"}[o.Backup])
	case api.JoinBack:
		return "joinback"
	case api.JoinEnd:
		return "joinend"
	case api.Dss:
		w := "dss"
		if o.HasAck {
			w += fmt.Sprint(":", o.Ack)
		}
		if o.HasMap {
			w += fmt.Sprintf("#%d+%d", o.Dsn, o.Len)
		}
		if o.Fin {
			w += "F"
		}
		return w
	case api.Add:
		return fmt.Sprint("add:", o.Addr)
	case api.Fast:
		return "fast:" + whose(o.Key)
	}
	return fmt.Sprint("kind", o.Kind)
}

// whose tells of which side a key is.
func whose(key uint64) string {
	return fmt.Sprint(slices.Index(keys[:], key))
}

// all is the words of all segments.
func all(l []api.Segment) string {
	var w []string
	for _, s := range l {
		w = append(w, words(s))
	}
	return strings.Join(w, ", ")
}

// duo is two sides, of which the first one dialed, and the segments that are on their way to each.
type duo struct {
	t    *testing.T
	side [2]*conn.Conn
	way  [2][]api.Segment // to each side
	tick int
}

// begin is two sides of which the first one's Syn came, and nothing more.
func begin(t *testing.T) *duo {
	t.Helper()
	a, e := conn.Dial(keys[0], conn.Ends{Own: 0, Other: 1, OwnPort: ports[0], OtherPort: ports[1]}, 0)
	if e != api.OK {
		t.Fatal(e)
	}
	l := a.Out()
	if all(l) != hello {
		t.Fatal(all(l))
	}
	b, e := conn.Accept(keys[1], l[0], 0)
	if e != api.OK {
		t.Fatal(e)
	}
	return &duo{t: t, side: [2]*conn.Conn{a, b}}
}

// open is two sides that are open.
func open(t *testing.T) *duo {
	t.Helper()
	d := begin(t)
	d.flow()
	for k, c := range d.side {
		if c.State() != api.COpen {
			t.Fatal(k, c.State())
		}
	}
	return d
}

// collect puts what each side has to send on its way.
func (d *duo) collect() {
	d.t.Helper()
	for k, c := range d.side {
		for _, s := range c.Out() {
			d.check(k, s)
			d.way[1-k] = append(d.way[1-k], s)
		}
	}
}

// check holds a segment of side k against what all segments have.
func (d *duo) check(k int, s api.Segment) {
	d.t.Helper()
	if !segment.Right(s) || s.SPort != ports[k] || s.DPort != ports[1-k] {
		d.t.Errorf("side %d sends %+v", k, s)
	}
	dss, is := option.Find(s.Opts, api.Dss)
	switch {
	case s.Syn || s.Rst:
		if is || s.Win != 0 || len(s.Data) > 0 {
			d.t.Errorf("side %d sends %s", k, words(s))
		}
	case !is || !dss.HasAck || !s.Acks:
		d.t.Errorf("side %d sends %s", k, words(s))
	case len(s.Data) > 0 && (!dss.HasMap || dss.Len != len(s.Data)):
		d.t.Errorf("side %d sends %s", k, words(s))
	}
}

// hear lets side k hear a segment, in whichever way it is for it.
func (d *duo) hear(k int, s api.Segment) {
	if c := d.side[k]; c.Mine(s) {
		c.Hear(s, d.tick)
	} else {
		c.Joined(s, d.tick)
	}
}

// flow lets all come, till nothing is on its way.
func (d *duo) flow() {
	d.t.Helper()
	for range 1000 {
		d.collect()
		if len(d.way[0])+len(d.way[1]) == 0 {
			return
		}
		for k := range d.way {
			l := d.way[k]
			d.way[k] = nil
			for _, s := range l {
				d.hear(k, s)
			}
		}
	}
	d.t.Fatal("there is no end of it")
}

// out is what side k has to send, which is lost.
func (d *duo) out(k int) []api.Segment {
	d.t.Helper()
	l := d.side[k].Out()
	for _, s := range l {
		d.check(k, s)
	}
	return l
}

// sends holds what side k has to send, which is lost, against words.
func (d *duo) sends(k int, want string) []api.Segment {
	d.t.Helper()
	l := d.out(k)
	if got := all(l); got != want {
		d.t.Errorf("at %d side %d sends\n%q, not\n%q", d.tick, k, got, want)
	}
	return l
}

// bring lets side 1-k hear what side k has to send, but nothing that comes back.
func (d *duo) bring(k int) {
	d.t.Helper()
	for _, s := range d.out(k) {
		d.hear(1-k, s)
	}
}

// till lets time go on to a tick, one by one, on both sides, and all come.
func (d *duo) till(tick int) {
	d.t.Helper()
	for d.tick < tick {
		d.tick++
		for _, c := range d.side {
			c.Tick(d.tick)
		}
		d.flow()
	}
}

// alone lets time go on to a tick, one by one, on side k, of which nothing comes.
func (d *duo) alone(k, tick int) {
	d.t.Helper()
	for d.tick < tick {
		d.tick++
		d.side[k].Tick(d.tick)
		d.out(k)
	}
}

// stands tells where a connection is: state, error, legs, and whether there are timers.
func stands(c *conn.Conn) string {
	return fmt.Sprintf("%s %d %d %t %t", states[c.State()], c.Err(), c.Legs(), c.Timers() > 0, c.Over())
}

// is holds where side k stands against a state, an error and legs; in CClosed nothing is left.
func (d *duo) is(k, state int, e api.Errno, legs int) {
	d.t.Helper()
	want := fmt.Sprintf("%s %d %d %t %t", states[state], e, legs, state != api.CClosed, state == api.CClosed)
	if got := stands(d.side[k]); got != want {
		d.t.Errorf("at %d side %d is %q, not %q", d.tick, k, got, want)
	}
}

var states = [...]string{"init", "open", "fin1", "fin2", "closewait", "closing", "lastack", "timewait", "closed"}

// ok holds an error against OK.
func (d *duo) ok(e api.Errno) {
	d.t.Helper()
	d.told(e, api.OK)
}

func (d *duo) told(e, want api.Errno) {
	d.t.Helper()
	if e != want {
		d.t.Errorf("at %d: error %d, not %d", d.tick, e, want)
	}
}

// writes lets side k write a text, all of it.
func (d *duo) writes(k int, text string) {
	d.t.Helper()
	if n, e := d.side[k].Write([]byte(text), d.tick); n != len(text) || e != api.OK {
		d.t.Errorf("at %d side %d writes %d of %d, error %d", d.tick, k, n, len(text), e)
	}
}

// reads holds what side k reads against a text.
func (d *duo) reads(k, most int, text string) {
	d.t.Helper()
	if b, e := d.side[k].Read(most, d.tick); string(b) != text || e != api.OK {
		d.t.Errorf("at %d side %d reads %q, error %d, not %q", d.tick, k, b, e, text)
	}
}

// fails holds the error of a read of side k against one.
func (d *duo) fails(k int, want api.Errno) {
	d.t.Helper()
	if b, e := d.side[k].Read(9, d.tick); len(b) > 0 || e != want {
		d.t.Errorf("at %d side %d reads %q, error %d, not %d", d.tick, k, b, e, want)
	}
}

// joined is two sides that are open, with one more leg, from 2 to 1, of the first one.
func joined(t *testing.T) *duo {
	t.Helper()
	d := open(t)
	d.ok(d.side[0].Tell(2, 0))
	d.flow()
	d.ok(d.side[0].Join(2, 1, false, 0))
	d.flow()
	if d.side[0].Legs() != 2 || d.side[1].Legs() != 2 {
		t.Fatal(d.side[0].Legs(), d.side[1].Legs())
	}
	return d
}
