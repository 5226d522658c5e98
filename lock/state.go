package lock

import (
	"cmp"
	"iter"
	"slices"

	"thalweg/api"
)

// state is what a lock has come to with the steps of a plan; run is when the last one of them began and ended.
type state struct {
	chamber
	plan  []api.LockStep
	run   api.LockRun
	taken counts
	cost  int
}

// newState returns the state before the first step. What the tows displace is as much with all plans. It is counted at once, so that no step gives water to the upper reach.
func newState(l api.Lock, tows ...api.LockTow) state {
	s := state{chamber: chamber{Lock: l}}
	for _, t := range tows {
		s.displace(t)
	}
	return s
}

// after returns the state after one more step that takes tows of a queue, or false if they do not fit into the chamber together.
func (s state) after(step api.LockStep, q queues) (state, bool) {
	d := directionOf(step.Up)
	first := s.taken[d]
	tows := q[d][first : first+step.Tows]
	if !s.holds(tows...) {
		return state{}, false
	}
	// Other states have the steps until here, too: the new one must not be written into their memory.
	s.plan = append(slices.Clip(s.plan), step)
	s.run = s.lift(step.Up, tows...)
	s.taken[d] += step.Tows
	for _, t := range tows {
		s.cost += t.Weight * (s.run.End - t.Arrive)
	}
	return s, true
}

// next yields the states after each step that can be the next one.
func (s state) next(q queues) iter.Seq[state] {
	return func(yield func(state) bool) {
		for d, waiting := range q {
			for n := 1; n <= len(waiting)-s.taken[d]; n++ {
				x, fits := s.after(api.LockStep{Up: direction(d) == up, Tows: n}, q)
				if !fits {
					break
				}
				if !yield(x) {
					return
				}
			}
		}
	}
}

// byCost compares states by their costs, their movements and their plans.
func byCost(a, b state) int {
	return cmp.Or(cmp.Compare(a.cost, b.cost), cmp.Compare(a.moves, b.moves), slices.CompareFunc(a.plan, b.plan, compareSteps))
}

// byWater compares states by what they take from the upper reach, and then as byCost does.
func byWater(a, b state) int {
	return cmp.Or(cmp.Compare(b.Upper, a.Upper), byCost(a, b))
}

// compareSteps compares steps of plans.
func compareSteps(a, b api.LockStep) int {
	return cmp.Or(cmp.Compare(directionOf(a.Up), directionOf(b.Up)), cmp.Compare(a.Tows, b.Tows))
}
