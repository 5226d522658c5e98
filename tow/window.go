package tow

import (
	"thalweg/api"
	"thalweg/whole"
)

// window is when a voyage enters a narrow, and when it has left it; if it does not pass the narrow, passes is false.
type window struct {
	in, out api.Bounds
	passes  bool
}

// windowOf returns the window of a valid voyage in a valid narrow, or ErrState if the voyage comes near, but does not pass it.
func windowOf(v api.Voyage, n api.Narrow) (window, api.Errno) {
	in, out := gates(v, n)
	switch {
	case onWay(v, in, out):
		return window{arrive(v, in), arrive(v, out), true}, api.OK
	case near(v, in, out):
		return window{}, api.ErrState
	}
	return window{}, api.OK
}

// gates returns where the bow is when a voyage enters a narrow, and when its tail has left it.
func gates(v api.Voyage, n api.Narrow) (in, out int) {
	tail := whole.Up(v.Length, 100)
	if down(v.Runs[0]) {
		return n.From, n.To + tail
	}
	return n.To, n.From - tail
}

// near reports whether a voyage comes near to a narrow with these gates.
func near(v api.Voyage, in, out int) bool {
	first, last := ends(v)
	if down(v.Runs[0]) {
		return first < out && last > in
	}
	return first > out && last < in
}

// later returns a window for a voyage that is held back.
func (w window) later(minutes int) window {
	hold := api.Bounds{Low: minutes, High: minutes}
	return window{whole.Sum(w.in, hold), whole.Sum(w.out, hold), w.passes}
}

// mayMeet reports whether two voyages with these windows may meet.
func (w window) mayMeet(x window) bool {
	return w.passes && x.passes && w.in.Low <= x.out.High && x.in.Low <= w.out.High
}

// mustMeet reports whether two voyages with these windows must meet.
func (w window) mustMeet(x window) bool {
	return w.passes && x.passes && w.in.High <= x.out.Low && x.in.High <= w.out.Low
}
