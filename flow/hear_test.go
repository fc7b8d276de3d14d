package flow_test

import (
	"strings"
	"testing"

	"ferrybridge/api"
)

// P14.1, Hear

// hearings are, for each state, segments, what they bring in tick 12, what is to be sent then, and where the flow stands: F@1 is what is left in the states that wait for it.
var hearings = map[int]string{
	api.FSynSent: `
		R @0 = ; ; synsent 14; S@0
		R @0 A0 = ; ; synsent 14; S@0
		R @7 A1 = reset; ; dead -; S@0
		R S F xyz @7 A1 = reset; ; dead -; S@0
		R @7 A2 = ; ; synsent 14; S@0
		S @0 A1 = opened -S@0; @1 a1; open -; none
		S F ab @0 A1 = opened -S@0; @1 a1; open -; none
		S @0 A0 = ; ; synsent 14; S@0
		S @0 A2 = ; ; synsent 14; S@0
		S @0 = ; ; synsent 14; S@0
		@0 A1 = ; ; synsent 14; S@0
		F ab @0 A1 = ; ; synsent 14; S@0
		ab @0 = ; ; synsent 14; S@0
		@1 = ; ; synsent 14; S@0`,
	api.FSynRcvd: `
		R @1 = reset; ; dead -; S@0
		R @0 A1 = ; ; synrcvd 14; S@0
		R @2 A1 = ; ; synrcvd 14; S@0
		S @0 = ; S@0 a1; synrcvd 16; S@0
		S F ab @0 = ; S@0 a1; synrcvd 16; S@0
		S @0 A1 = ; @1 a1; synrcvd 14; S@0
		S @0 A0 = ; @1 a1; synrcvd 14; S@0
		S @1 = ; @1 a1; synrcvd 14; S@0
		S @-1 = ; @1 a1; synrcvd 14; S@0
		@1 A1 = opened fresh -S@0; ; open -; none
		@2 A1 = opened -S@0; ; open -; none
		@0 A1 = opened -S@0; @1 a1; open -; none
		ab @1 A1 = opened fresh -S@0; @1 a3; open -; none
		F @1 A1 = opened fresh fin -S@0; @1 a2; closewait -; none
		F ab @1 A1 = opened fresh fin -S@0; @1 a4; closewait -; none
		F ab @2 A1 = opened -S@0; @1 a1; open -; none
		ab @1 A0 = ; ; synrcvd 14; S@0
		ab @1 A2 = ; ; synrcvd 14; S@0
		ab @1 = ; ; synrcvd 14; S@0
		F @1 = ; ; synrcvd 14; S@0
		F @0 A0 = ; ; synrcvd 14; S@0
		@0 = ; ; synrcvd 14; S@0`,
	api.FOpen: `
		R @1 = reset; ; dead -; none
		R @0 A1 = ; ; open -; none
		R S F ab @2 A1 = ; ; open -; none
		S @0 = ; @1 a1; open -; none
		S @0 A1 = ; @1 a1; open -; none
		S F ab @1 A1 = ; @1 a1; open -; none
		@1 A1 = fresh; ; open -; none
		@1 A2 = fresh; ; open -; none
		@1 = fresh; ; open -; none
		@2 A1 = ; ; open -; none
		@0 A1 = ; @1 a1; open -; none
		ab @1 A1 = fresh; @1 a3; open -; none
		ab @1 A0 = fresh; @1 a3; open -; none
		abcdefgh @1 = fresh; @1 a9; open -; none
		ab @2 A1 = ; @1 a1; open -; none
		ab @0 A1 = ; @1 a1; open -; none
		ab @-1 A1 = ; @1 a1; open -; none
		F @1 A1 = fresh fin; @1 a2; closewait -; none
		F ab @1 = fresh fin; @1 a4; closewait -; none
		F @2 A1 = ; @1 a1; open -; none
		F @0 A1 = ; @1 a1; open -; none`,
	api.FFin1: `
		R @1 = reset; ; dead -; F@1
		R @0 A2 = ; ; fin1 13; F@1
		S @0 = ; @2 a1; fin1 13; F@1
		S @0 A2 = ; @2 a1; fin1 13; F@1
		@1 A1 = fresh; ; fin1 13; F@1
		@1 A2 = fresh -F@1; ; fin2 -; none
		@1 A3 = fresh; ; fin1 13; F@1
		@2 A2 = -F@1; ; fin2 -; none
		@0 A2 = -F@1; @2 a1; fin2 -; none
		@2 A1 = ; ; fin1 13; F@1
		@0 A1 = ; @2 a1; fin1 13; F@1
		ab @1 A1 = fresh; @2 a3; fin1 13; F@1
		ab @1 A2 = fresh -F@1; @2 a3; fin2 -; none
		ab @2 A2 = -F@1; @2 a1; fin2 -; none
		F @1 A1 = fresh fin; @2 a2; closing 13; F@1
		F @1 A2 = fresh fin -F@1; @2 a2; timewait 20; none
		F ab @1 A2 = fresh fin -F@1; @2 a4; timewait 20; none
		F @2 A2 = -F@1; @2 a1; fin2 -; none
		F @1 = fresh fin; @2 a2; closing 13; F@1`,
	api.FFin2: `
		R @1 = reset; ; dead -; none
		R @2 = ; ; fin2 -; none
		S @0 = ; @2 a1; fin2 -; none
		S @0 A2 = ; @2 a1; fin2 -; none
		@1 A2 = fresh; ; fin2 -; none
		@2 A2 = ; ; fin2 -; none
		@0 A2 = ; @2 a1; fin2 -; none
		ab @1 A2 = fresh; @2 a3; fin2 -; none
		ab @0 = ; @2 a1; fin2 -; none
		F @1 A2 = fresh fin; @2 a2; timewait 20; none
		F ab @1 = fresh fin; @2 a4; timewait 20; none
		F @0 A2 = ; @2 a1; fin2 -; none
		F ab @2 A2 = ; @2 a1; fin2 -; none`,
	api.FCloseWait: `
		R @2 = reset; ; dead -; none
		R @1 = ; ; closewait -; none
		S @0 = ; @1 a2; closewait -; none
		S @1 = ; @1 a2; closewait -; none
		@2 A1 = ; ; closewait -; none
		@3 A1 = ; ; closewait -; none
		@1 A1 = ; @1 a2; closewait -; none
		ab @2 A1 = ; @1 a2; closewait -; none
		F @1 A1 = ; @1 a2; closewait -; none
		F @2 A1 = ; @1 a2; closewait -; none
		F ab @3 = ; @1 a2; closewait -; none`,
	api.FClosing: `
		R @2 = reset; ; dead -; F@1
		R @1 A2 = ; ; closing 13; F@1
		S @0 A2 = ; @2 a2; closing 13; F@1
		@2 A2 = -F@1; ; timewait 20; none
		@3 A2 = -F@1; ; timewait 20; none
		@1 A2 = -F@1; @2 a2; timewait 20; none
		F @1 A2 = -F@1; @2 a2; timewait 20; none
		ab @2 A2 = -F@1; @2 a2; timewait 20; none
		@2 A1 = ; ; closing 13; F@1
		@2 A3 = ; ; closing 13; F@1
		F @1 A1 = ; @2 a2; closing 13; F@1
		F @2 = ; @2 a2; closing 13; F@1
		ab @2 A1 = ; @2 a2; closing 13; F@1`,
	api.FLastAck: `
		R @2 = reset; ; dead -; F@1
		R @1 A2 = ; ; lastack 13; F@1
		S @0 A2 = ; @2 a2; lastack 13; F@1
		@2 A2 = -F@1; ; done -; none
		@3 A2 = -F@1; ; done -; none
		@1 A2 = -F@1; ; done -; none
		F @1 A2 = -F@1; ; done -; none
		ab @2 A2 = -F@1; ; done -; none
		@2 A1 = ; ; lastack 13; F@1
		@2 A3 = ; ; lastack 13; F@1
		@2 = ; ; lastack 13; F@1
		@1 = ; @2 a2; lastack 13; F@1
		F @1 A1 = ; @2 a2; lastack 13; F@1
		ab @2 A1 = ; @2 a2; lastack 13; F@1`,
	api.FTimeWait: `
		R @2 = reset; ; dead -; none
		R @1 A2 = ; ; timewait 19; none
		S @0 A2 = ; @2 a2; timewait 19; none
		@2 A2 = ; ; timewait 19; none
		@3 A2 = ; ; timewait 19; none
		@1 A2 = ; @2 a2; timewait 19; none
		F @1 A2 = ; @2 a2; timewait 19; none
		F @2 A2 = ; @2 a2; timewait 19; none
		ab @2 = ; @2 a2; timewait 19; none`,
	api.FDone: `
		R @2 = ; ; done -; none
		S @0 = ; ; done -; none
		@1 A2 = ; ; done -; none
		F @1 A2 = ; ; done -; none
		ab @2 = ; ; done -; none`,
	api.FDead: `
		R @1 = ; ; dead -; none
		S @0 = ; ; dead -; none
		@0 A1 = ; ; dead -; none
		F @1 A1 = ; ; dead -; none
		ab @1 = ; ; dead -; none`,
}

// rows are the lines of a text, cut at their =.
func rows(text string) [][2]string {
	var l [][2]string
	for line := range strings.Lines(strings.TrimLeft(text, "\n")) {
		words, want, _ := strings.Cut(strings.Trim(line, "\t\n"), " = ")
		l = append(l, [2]string{words, want})
	}
	return l
}

func TestHearIsAsWritten(t *testing.T) {
	if len(hearings) != 11 {
		t.Error(len(hearings))
	}
	anywhere(func(x, y uint32) {
		for state, text := range hearings {
			for _, row := range rows(text) {
				f := bring(state, x, y)
				f.is(t, states[state]+": "+row[0], f.hears(row[0], 12), row[1])
			}
		}
	})
}

// A number is ahead of rcv by up to 2^31 - 1 steps, and no further.
func TestHearFarOff(t *testing.T) {
	anywhere(func(x, y uint32) {
		for _, c := range []struct {
			back uint32
			want string
		}{{1, "; @1 a1; open -; none"}, {2, "; @1 a1; open -; none"}, {1<<31 - 1, "; @1 a1; open -; none"}, {1 << 31, "; ; open -; none"}, {1<<31 + 1, "; ; open -; none"}, {greatest, "; ; open -; none"}} {
			f := open(x, y)
			f.Out()
			s := f.seg("@1 A1")
			s.Seq -= c.back
			f.is(t, "far off", f.Hear(s, 12), c.want)
		}
	})
}

// several is an open flow that has sent three pieces in tick 11: its wait is 3, and its pieces begin at 1, 4 and 5.
func several(x, y uint32) place {
	f := open(x, y)
	f.Send([]byte("abc"), 1, false, 11)
	f.Send([]byte("d"), 4, false, 11)
	f.Send([]byte("ef"), 5, true, 11)
	f.Out()
	return f
}

// Pieces go up to what is acknowledged, whole ones alone; what may not be acknowledged is nothing.
func TestHearAcks(t *testing.T) {
	const all = "abc#1@1 d#4@4 ef#5!@5"
	anywhere(func(x, y uint32) {
		for _, row := range rows(`
			@1 A0 = fresh; ; open 14; ` + all + `
			@1 A1 = fresh; ; open 14; ` + all + `
			@1 A2 = fresh; ; open 14; ` + all + `
			@1 A3 = fresh; ; open 14; ` + all + `
			@1 A4 = fresh -abc#1@1; ; open 15; d#4@4 ef#5!@5
			@1 A5 = fresh -abc#1@1 -d#4@4; ; open 15; ef#5!@5
			@1 A6 = fresh -abc#1@1 -d#4@4; ; open 15; ef#5!@5
			@1 A7 = fresh -abc#1@1 -d#4@4 -ef#5!@5; ; open -; none
			@1 A8 = fresh; ; open 14; ` + all + `
			@1 = fresh; ; open 14; ` + all + `
			@2 A5 = -abc#1@1 -d#4@4; ; open 15; ef#5!@5
			@0 A5 = -abc#1@1 -d#4@4; @7 a1; open 15; ef#5!@5
			xy @1 A5 = fresh -abc#1@1 -d#4@4; @7 a3; open 15; ef#5!@5
			xy @1 A8 = fresh; @7 a3; open 14; ` + all + `
			F xy @1 A7 = fresh fin -abc#1@1 -d#4@4 -ef#5!@5; @7 a4; closewait -; none
			S @1 A7 = ; @7 a1; open 14; ` + all) {
			f := several(x, y)
			f.is(t, row[0], f.hears(row[0], 12), row[1])
		}
	})
}

// A Fin that goes with pieces ahead of it leads on, each that goes without it doesn't.
func TestHearAckOfFinBehindData(t *testing.T) {
	anywhere(func(x, y uint32) {
		f := several(x, y)
		f.Close(11)
		f.is(t, "Close", api.Heard{}, "; F@7 a1; fin1 14; abc#1@1 d#4@4 ef#5!@5 F@7")
		f.is(t, "A5", f.hears("@1 A5", 12), "fresh -abc#1@1 -d#4@4; ; fin1 15; ef#5!@5 F@7")
		f.is(t, "A7", f.hears("@1 A7", 13), "fresh -ef#5!@5; ; fin1 16; F@7")
		f.is(t, "A9", f.hears("@1 A9", 13), "fresh; ; fin1 16; F@7")
		f.is(t, "A8", f.hears("@1 A8", 14), "fresh -F@7; ; fin2 -; none")

		f = several(x, y)
		f.hears("F @1", 11)
		f.Close(11)
		f.Out()
		f.is(t, "A7 in lastack", f.hears("@2 A7", 12), "-abc#1@1 -d#4@4 -ef#5!@5; ; lastack 15; F@7")
		f.is(t, "A8 in lastack", f.hears("@2 A8", 12), "-F@7; ; done -; none")

		f = several(x, y)
		f.Close(11)
		f.Out()
		f.is(t, "all at once", f.hears("F @1 A8", 12), "fresh fin -abc#1@1 -d#4@4 -ef#5!@5 -F@7; @8 a2; timewait 20; none")
	})
}

// Both sides' Fins cross: each goes by FClosing.
func TestHearFinsThatCross(t *testing.T) {
	anywhere(func(x, y uint32) {
		f := open(x, y)
		f.Close(10)
		f.Out()
		f.is(t, "the Fin", f.hears("F @1 A1", 11), "fresh fin; @2 a2; closing 13; F@1")
		f.is(t, "its acknowledgement", f.hears("@2 A2", 12), "-F@1; ; timewait 20; none")
		f.is(t, "the Fin again", f.hears("F @1 A2", 15), "; @2 a2; timewait 20; none")
	})
}

// The tick from which FTimeWait lasts is the one in which it came.
func TestTimeWaitIsNotPutOff(t *testing.T) {
	f := bring(api.FTimeWait, 5, 9)
	for tick := 12; tick < 19; tick++ {
		f.is(t, "the Fin again", f.hears("F @1 A2", tick), "; @2 a2; timewait 19; none")
		f.is(t, "Expire", f.Expire(tick), "; ; timewait 19; none")
	}
	f.is(t, "Expire", f.Expire(19), "; ; done -; none")
}

// What is fresh goes on behind each other, from one Syn to the Fin.
func TestHearDataInOrder(t *testing.T) {
	anywhere(func(x, y uint32) {
		f := open(x, y)
		f.Out()
		for _, row := range rows(`
			abc @1 A1 = fresh; @1 a4; open -; none
			abc @1 A1 = ; @1 a4; open -; none
			fg @6 A1 = ; @1 a4; open -; none
			de @4 A1 = fresh; @1 a6; open -; none
			cde @3 A1 = ; @1 a6; open -; none
			fg @6 A1 = fresh; @1 a8; open -; none
			@8 A1 = fresh; ; open -; none
			F @9 A1 = ; @1 a8; open -; none
			F hi @8 A1 = fresh fin; @1 a11; closewait -; none
			F hi @8 A1 = ; @1 a11; closewait -; none
			jk @11 A1 = ; @1 a11; closewait -; none`) {
			f.is(t, row[0], f.hears(row[0], 12), row[1])
		}
	})
}

// What else a segment has is nothing to a flow.
func TestHearOfWhatElseASegmentHas(t *testing.T) {
	f := open(1, 2)
	f.Out()
	s := f.seg("ab @1 A1")
	s.Src, s.Dst, s.SPort, s.DPort, s.Win, s.Opts = -1, 9, 70000, -3, 1<<20, []api.Option{{Kind: 99}}
	f.is(t, "the rest", f.Hear(s, 12), "fresh; @1 a3; open -; none")
}

// Long data go on by as much.
func TestHearLongData(t *testing.T) {
	f := open(1, greatest)
	f.Out()
	s := f.seg("@1 A1")
	s.Data = make([]byte, 1<<20)
	f.is(t, "long", f.Hear(s, 12), "fresh; @1 a1048577; open -; none")
}
