package wheel

import (
	"cmp"
	"slices"
)

// timer is one that is armed; at is its place in its list, so that it needn't be searched for.
type timer struct {
	Due
	at int
}

// list is timers in no order: they are put in order when they are due.
type list []*timer

// add puts t to the others.
func (l *list) add(t *timer) {
	t.at = len(*l)
	*l = append(*l, t)
}

// drop takes t out of them: the last one comes to its place.
func (l *list) drop(t *timer) {
	last := len(*l) - 1
	moved := (*l)[last]
	(*l)[t.at], moved.at = moved, t.at
	// Nothing is kept of one that was dropped.
	(*l)[last] = nil
	*l = (*l)[:last]
}

// earliest is the earliest tick of theirs; there is at least one.
func (l list) earliest() int {
	return slices.MinFunc(l, func(a, b *timer) int { return cmp.Compare(a.Tick, b.Tick) }).Tick
}

// byHandle puts them in the order of their handles.
func (l list) byHandle() list {
	slices.SortFunc(l, func(a, b *timer) int { return cmp.Compare(a.Handle, b.Handle) })
	return l
}

// ring is sixteen lists that come round, each of a stretch of as many ticks as the ring is wide.
type ring struct {
	wide  int
	lists [16]list
}

// stretch is which one a tick is in.
func (r *ring) stretch(tick int) int {
	return tick / r.wide
}

// of is the list of a tick's stretch.
func (r *ring) of(tick int) *list {
	return &r.lists[r.stretch(tick)%len(r.lists)]
}

// empty takes all timers out of the list of a tick's stretch.
func (r *ring) empty(tick int) list {
	l := r.of(tick)
	all := *l
	*l = nil
	return all
}

// first answers the earliest tick of any of the ring's timers, if it has any.
func (r *ring) first(now int) (int, bool) {
	for i := range r.lists {
		// The list of now's own stretch is the last one: what stands there is for the stretch a whole turn behind.
		if l := *r.of(now + (i+1)*r.wide); len(l) > 0 {
			return l.earliest(), true
		}
	}
	return 0, false
}

// nest is a ring, and what stands within it, if anything does: one stretch of the ring is a whole turn of that.
type nest struct {
	ring
	within *nest
}

// rings answers the outermost of that many.
func rings(many int) *nest {
	var n *nest
	for wide := 1; many > 0; many-- {
		n = &nest{ring{wide: wide}, n}
		wide *= len(n.lists)
	}
	return n
}

// home is the list that a tick's timers stand in at now: what is in one stretch with now stands further within.
func (n *nest) home(tick, now int) *list {
	if n.within == nil || n.stretch(tick) != n.stretch(now) {
		return n.of(tick)
	}
	return n.within.home(tick, now)
}

// step lets now come, the tick behind the last one, and takes out what is due.
func (n *nest) step(now int) list {
	if n.within == nil {
		return n.empty(now).byHandle()
	}
	if now%n.wide == 0 {
		for _, t := range n.empty(now) {
			n.within.of(t.Tick).add(t)
		}
	}
	return n.within.step(now)
}

// earliest answers the earliest tick of any timer, if there is any: what stands within is ahead of what stands without.
func (n *nest) earliest(now int) (int, bool) {
	if n.within != nil {
		if tick, is := n.within.earliest(now); is {
			return tick, true
		}
	}
	return n.first(now)
}
