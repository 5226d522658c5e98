package hull

import (
	"iter"
	"math"
	"slices"

	"thalweg/api"
)

// roomOf returns how many lots holds can hold in all.
func roomOf(holds ...hold) int {
	room := 0
	for _, x := range holds {
		room += x.Lots
	}
	return room
}

// loads yields the loads with so many lots, from the smallest list on. What it yields changes afterwards.
func (s ship) loads(lots int) iter.Seq[[]int] {
	return func(yield func([]int) bool) {
		s.fill(make([]int, 0, len(s.holds)), lots, yield)
	}
}

// fill yields the loads that begin as given, with so many lots in the other holds, and reports whether more are wanted.
func (s ship) fill(load []int, lots int, yield func([]int) bool) bool {
	if len(load) == len(s.holds) {
		return yield(load)
	}
	first, others := s.holds[len(load)], s.holds[len(load)+1:]
	// What the other holds cannot take must be in this one.
	for n := max(0, lots-roomOf(others...)); n <= min(lots, first.Lots); n++ {
		if !s.fill(append(load, n), lots-n, yield) {
			return false
		}
	}
	return true
}

// level returns the load with so many lots, which the ship has room for, whose moment is least: no other one makes the ship lie less deep.
func (s ship) level(lots int) []int {
	var best []int
	least := math.MaxInt
	for load := range s.loads(lots) {
		if _, moment := s.weigh(load); abs(moment) < least {
			best, least = slices.Clone(load), abs(moment)
		}
	}
	return best
}

// advise returns the advice for water of a density, and a way with a least depth.
func (s ship) advise(density api.Bounds, d leastDepth, keel int) (api.HullAdvice, api.Errno) {
	room := roomOf(s.holds...)
	more := false // whether the ship floats with one lot more
	for lots := room; lots >= 0; lots-- {
		load := s.level(lots)
		f, floats := s.float(load, density)
		if floats && d.surely(f, keel) {
			a := api.HullAdvice{Load: load, Lots: lots}
			switch {
			case lots == room:
				a.Cause = api.HullFull
			case more:
				a.Cause, a.Pass, a.Hour = api.HullRiver, d.pass, d.hour
			default:
				a.Cause = api.HullSinks
			}
			return a, api.OK
		}
		more = floats
	}
	return api.HullAdvice{}, api.ErrState
}
