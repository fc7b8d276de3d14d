package conn_test

import (
	"testing"

	"ferrybridge/api"
)

// bring is two sides of which the first one is in a state, with nothing to be sent.
func bring(t *testing.T, state int) *duo {
	t.Helper()
	return bringWith(t, state, "")
}

// bringWith is the same, where the second one wrote a text that came, but wasn't read.
func bringWith(t *testing.T, state int, text string) *duo {
	t.Helper()
	if state == api.CInit {
		d := begin(t)
		d.out(1)
		return d
	}
	d := open(t)
	a, b := d.side[0], d.side[1]
	d.writes(1, text)
	d.flow()
	switch state {
	case api.CFin1:
		d.ok(a.Shutdown(0))
	case api.CFin2:
		d.ok(a.Shutdown(0))
		d.flow()
	case api.CCloseWait:
		d.ok(b.Shutdown(0))
		d.flow()
	case api.CClosing:
		d.ok(a.Shutdown(0))
		d.ok(b.Shutdown(0))
		d.bring(1)
	case api.CLastAck:
		d.ok(b.Shutdown(0))
		d.flow()
		d.ok(a.Shutdown(0))
	case api.CTimeWait, api.CClosed:
		d.ok(a.Shutdown(0))
		d.ok(b.Shutdown(0))
		d.flow()
	}
	if state == api.CClosed {
		d.till(8)
	}
	d.out(0)
	d.out(1)
	if a.State() != state {
		t.Fatalf("%s, not %s", stands(a), states[state])
	}
	return d
}
