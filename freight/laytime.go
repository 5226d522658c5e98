package freight

import (
	"cmp"
	"slices"

	"thalweg/api"
	"thalweg/valid"
)

// call is the call of a tow under a charter: when time is free, and what happened.
type call struct {
	api.Charter
	free  []api.FreeTime
	facts []api.FreightMessage
}

// newCall returns a call by which laytime can be counted, or the first of the errors of Laytime.
func newCall(c api.Charter, free []api.FreeTime, l []api.FreightMessage) (call, api.Errno) {
	if e := cmp.Or(CheckCharter(c), checkFree(free)); e != api.OK {
		return call{}, e
	}
	all, e := newEditions(l)
	if e != api.OK || len(all.charters()) > 1 {
		return call{}, cmp.Or(e, api.ErrForm)
	}
	x := call{c, free, all.facts()}
	return x, x.check()
}

// check returns the error of the facts of a call.
func (c call) check() api.Errno {
	switch {
	case !c.once(api.FactNotice, api.FactEnd, api.FactTons, api.FactLevel):
		return api.ErrTwice
	case !c.has(api.FactNotice, api.FactEnd):
		return api.ErrNone
	case !c.inOrder():
		return api.ErrState
	}
	return api.OK
}

// of returns the facts of some kinds, in their order.
func (c call) of(kinds ...api.FactKind) []api.FreightMessage {
	return slices.DeleteFunc(slices.Clone(c.facts), func(m api.FreightMessage) bool { return !slices.Contains(kinds, m.Kind) })
}

// once reports whether there are not two facts of one of these kinds.
func (c call) once(kinds ...api.FactKind) bool {
	return valid.Every(kinds, func(k api.FactKind) bool { return len(c.of(k)) <= 1 })
}

// has reports whether there are facts of all these kinds.
func (c call) has(kinds ...api.FactKind) bool {
	return valid.Every(kinds, func(k api.FactKind) bool { return len(c.of(k)) > 0 })
}

// work returns the facts that matter for laytime: from FactNotice to FactEnd, if they come in their order.
func (c call) work() []api.FreightMessage {
	return c.of(api.FactNotice, api.FactStop, api.FactResume, api.FactEnd)
}

// inOrder reports whether the facts come in the order that laytime needs.
func (c call) inOrder() bool {
	work := c.work()
	for i, m := range work {
		if m.Kind != kindAt(i, len(work)) {
			return false
		}
	}
	return true
}

// kindAt returns the kind that the fact i of so many must have.
func kindAt(i, facts int) api.FactKind {
	switch {
	case i == 0:
		return api.FactNotice
	case i == facts-1:
		return api.FactEnd
	case i%2 == 1:
		return api.FactStop
	}
	return api.FactResume
}

// excepted returns the times that do not count, sorted by their beginnings. What follows a FactStop is a FactResume or FactEnd: until then work stops.
func (c call) excepted() []api.FreeTime {
	l := slices.Clone(c.free)
	work := c.work()
	for i, m := range work {
		if m.Kind == api.FactStop {
			l = append(l, api.FreeTime{From: m.Minute, To: work[i+1].Minute})
		}
	}
	slices.SortFunc(l, func(a, b api.FreeTime) int { return cmp.Compare(a.From, b.From) })
	return l
}

// count counts laytime. It goes from one excepted time to the next one, and at last to the end: the minutes in between are used, until laytime is.
func (c call) count() api.LayCount {
	work := c.work()
	end := work[len(work)-1].Minute
	n := api.LayCount{Begin: work[0].Minute + c.Notice}
	now := n.Begin
	for _, x := range append(c.excepted(), api.FreeTime{From: end, To: end}) {
		until := max(now, min(x.From, end))
		n.Used += until - now
		if more := n.Used - c.Laytime; more >= 0 {
			n.Used = c.Laytime
			n.Over = max(0, end-until+more)
			return n
		}
		now = max(until, x.To)
	}
	n.Saved = c.Laytime - n.Used
	return n
}
