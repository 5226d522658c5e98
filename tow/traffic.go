package tow

import (
	"iter"
	"slices"

	"thalweg/api"
	"thalweg/valid"
)

// traffic is valid voyages and narrows, and for each voyage its window in each narrow.
type traffic struct {
	voyages []api.Voyage
	narrows []api.Narrow
	windows [][]window
}

// turn is a voyage, and by how many minutes it is held back.
type turn struct {
	voyage, minutes int
}

// newTraffic returns the traffic of voyages and narrows, or the first error that all functions with both have in common.
func newTraffic(l []api.Voyage, narrows []api.Narrow) (traffic, api.Errno) {
	if len(l) > api.MaxVoyages || len(narrows) > api.MaxNarrows {
		return traffic{}, api.ErrLong
	}
	if !valid.Every(l, validVoyage) || !valid.Every(narrows, validNarrow) {
		return traffic{}, api.ErrArg
	}
	t := traffic{l, narrows, make([][]window, len(l))}
	for i, v := range l {
		for _, n := range narrows {
			w, e := windowOf(v, n)
			if e != api.OK {
				return traffic{}, e
			}
			t.windows[i] = append(t.windows[i], w)
		}
	}
	return t, api.OK
}

// newHeldTraffic is newTraffic for voyages that may be held back by at most so many minutes.
func newHeldTraffic(l []api.Voyage, narrows []api.Narrow, most int) (traffic, api.Errno) {
	t, e := newTraffic(l, narrows)
	if e == api.OK && !validHold(most) {
		return traffic{}, api.ErrRange
	}
	return t, e
}

// apart reports whether two voyages must not meet in a narrow.
func (t traffic) apart(a, b, narrow int) bool {
	n := t.narrows[narrow]
	return n.Single || t.voyages[a].Width+t.voyages[b].Width > n.Width
}

// window returns the window of a voyage in a narrow, held back as it is.
func (t traffic) window(x turn, narrow int) window {
	return t.windows[x.voyage][narrow].later(x.minutes)
}

// conflicts yields the numbers of the narrows in which two voyages may meet, but must not.
func (t traffic) conflicts(a, b turn) iter.Seq[int] {
	return func(yield func(int) bool) {
		for i := range t.narrows {
			if t.apart(a.voyage, b.voyage, i) && t.window(a, i).mayMeet(t.window(b, i)) && !yield(i) {
				return
			}
		}
	}
}

// holds goes through the voyages in an order, and returns the least holds, by the numbers of the voyages; or false, and the first voyage for which there is none.
func (t traffic) holds(order []int, most int) (holds []int, at int, ok bool) {
	holds = make([]int, len(order))
	var before []turn
	for _, voyage := range order {
		x := t.hold(voyage, before...)
		if x.minutes > most {
			return nil, voyage, false
		}
		holds[voyage] = x.minutes
		before = append(before, x)
	}
	return holds, 0, true
}

// hold holds a voyage back by the least number of minutes with which it has no conflict with those before it.
func (t traffic) hold(voyage int, before ...turn) turn {
	x := turn{voyage: voyage}
	for {
		minutes := t.needed(x, before...)
		if minutes == x.minutes {
			return x
		}
		x.minutes = minutes
	}
}

// needed returns the minutes of a voyage, or, if it has conflicts, a greater number: any number between has one of these conflicts, too.
func (t traffic) needed(x turn, before ...turn) int {
	minutes := x.minutes
	for _, y := range before {
		for i := range t.conflicts(x, y) {
			// Only after the other one has left the narrow is this one late enough: it is too late to come before it.
			minutes = max(minutes, t.window(y, i).out.High+1-t.windows[x.voyage][i].in.Low)
		}
	}
	return minutes
}

// orders yields the orders of so many voyages, from the smallest list on. What it yields changes afterwards.
func orders(voyages int) iter.Seq[[]int] {
	return func(yield func([]int) bool) {
		extend(make([]int, 0, voyages), voyages, yield)
	}
}

// extend yields the orders that begin as given, and reports whether more are wanted.
func extend(order []int, voyages int, yield func([]int) bool) bool {
	if len(order) == voyages {
		return yield(order)
	}
	for next := range voyages {
		if !slices.Contains(order, next) && !extend(append(order, next), voyages, yield) {
			return false
		}
	}
	return true
}

// sum returns the sum of holds.
func sum(holds ...int) int {
	all := 0
	for _, minutes := range holds {
		all += minutes
	}
	return all
}
