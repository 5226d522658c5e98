package lock

import (
	"cmp"
	"slices"

	"thalweg/api"
)

// direction is where tows go.
type direction int

// The directions, in the order in which steps are compared.
const (
	down direction = iota
	up
	directions
)

// directionOf returns the direction of tows that go up, or not.
func directionOf(goesUp bool) direction {
	if goesUp {
		return up
	}
	return down
}

// counts are how many tows of each direction there are.
type counts [directions]int

// queues are the tows of each direction, in the order in which they are taken.
type queues [directions][]api.LockTow

// newQueues returns the queues of tows.
func newQueues(tows ...api.LockTow) queues {
	var q queues
	for _, t := range tows {
		d := directionOf(t.Up)
		q[d] = append(q[d], t)
	}
	for _, waiting := range q {
		slices.SortStableFunc(waiting, func(a, b api.LockTow) int { return cmp.Compare(a.Arrive, b.Arrive) })
	}
	return q
}

// all returns how many tows wait in each queue.
func (q queues) all() counts {
	var n counts
	for d, waiting := range q {
		n[d] = len(waiting)
	}
	return n
}

// complete reports whether the steps of a plan take all tows.
func (q queues) complete(plan ...api.LockStep) bool {
	var taken counts
	all := q.all()
	for _, step := range plan {
		d := directionOf(step.Up)
		// Sums of any numbers of tows could overflow.
		if step.Tows < 1 || step.Tows > all[d]-taken[d] {
			return false
		}
		taken[d] += step.Tows
	}
	return taken == all
}
