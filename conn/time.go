package conn

import (
	"math"

	"ferrybridge/api"
	"ferrybridge/wheel"
)

// The timers; each leg has one, too, from the last one on, by its number. What is due at one tick is done in this order.
const (
	timeGone   = iota // CTimeWait is over
	timeLinger        // a closed connection is given up
	timeEnd           // the end is told again
	timeIdle          // the other side is asked, or given up
	timeWindow        // it is asked for the window
	timeLeg
)

const (
	// most is how many ticks time goes on in one call.
	most = 10000
	// far is how many ticks ahead a timer may be armed.
	far = 4096
)

// timers are a connection's, counted from the tick on with which it began.
type timers struct {
	begun int
	wheel *wheel.Wheel
	// at is what each of the connection's own is set for, 0, if it isn't: the wheel has none that is further ahead than it can be armed for.
	at [timeLeg]int
}

// Tick lets time go on to tick.
func (c *Conn) Tick(tick int) {
	if c == nil {
		return
	}
	for end := min(c.since(tick), c.wheel.Now()+most); c.wheel.Now() < end && c.state != api.CClosed; {
		c.pass(c.wheel.Now() + 1)
	}
}

// pass lets one tick pass, and does what is due at it.
func (c *Conn) pass(now int) {
	due := c.wheel.Advance(now)
	if len(due) == 0 {
		return
	}
	tick := c.begun + now
	for _, d := range due {
		c.fire(d.Handle, tick)
	}
	c.settle(tick)
}

// fire does what a timer is for.
func (c *Conn) fire(timer, tick int) {
	if timer >= timeLeg {
		c.expire(timer-timeLeg, tick)
		return
	}
	if !c.reached(timer) {
		return
	}
	c.unset(timer)
	switch timer {
	case timeGone:
		c.step(api.EDone)
		c.clear()
	case timeLinger:
		c.abort(api.ErrTimeout)
	case timeEnd:
		c.giveUpEnd()
	case timeIdle:
		c.idle(tick)
	case timeWindow:
		c.ask()
	}
}

// expire does what is due on the leg of that number.
func (c *Conn) expire(number, tick int) {
	for _, l := range c.legs {
		if l.number == number {
			l.Expire(tick)
			c.emit(l)
			c.leave(l, api.ErrTimeout)
			return
		}
	}
}

// idle asks the other side whether it is there, or gives it up.
func (c *Conn) idle(tick int) {
	if c.asked >= api.Probes {
		c.end(api.ErrTimeout)
		return
	}
	c.asked++
	c.ask()
	c.set(timeIdle, tick, api.Between)
}

// since is how many ticks it is from the beginning to tick.
func (t *timers) since(tick int) int {
	if tick <= t.begun {
		return 0
	}
	// Without sign, as they may be further apart than the greatest int; and half of that, as times are added.
	return int(min(uint(tick)-uint(t.begun), math.MaxInt/2))
}

// set sets a timer for so many ticks behind tick.
func (t *timers) set(timer, tick, wait int) { t.at[timer] = t.since(tick) + wait }

// unset lets it not be set.
func (t *timers) unset(timer int) { t.at[timer] = 0 }

// is tells whether it is set.
func (t *timers) is(timer int) bool { return t.at[timer] > 0 }

// reached tells whether it is time for it.
func (t *timers) reached(timer int) bool { return t.is(timer) && t.at[timer] <= t.wheel.Now() }

// arm lets the wheel have what is set, and what the legs await.
func (t *timers) arm(legs []*leg) {
	for timer, at := range t.at {
		t.hang(timer, at, at > 0)
	}
	for _, l := range legs {
		at, is := l.At()
		t.hang(timeLeg+l.number, t.since(at), is)
	}
}

// hang arms a timer, or cancels it; what is due already is so at the next tick, and what is too far ahead is looked at again on the way.
func (t *timers) hang(timer, at int, is bool) {
	if !is {
		t.wheel.Cancel(timer)
		return
	}
	now := t.wheel.Now()
	t.wheel.Arm(timer, min(max(at, now+1), now+far))
}

// disarm lets none of the connection's own be set.
func (t *timers) disarm() {
	t.at = [timeLeg]int{}
	t.arm(nil)
}
