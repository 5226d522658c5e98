package lock

import (
	"container/heap"
	"iter"

	"thalweg/api"
)

// agenda is a heap of states: the least one comes first.
type agenda struct {
	states  []state
	compare func(a, b state) int
}

// Len returns how many states there are.
func (a *agenda) Len() int { return len(a.states) }

// Less reports whether a state comes before another one.
func (a *agenda) Less(i, j int) bool { return a.compare(a.states[i], a.states[j]) < 0 }

// Swap exchanges two states.
func (a *agenda) Swap(i, j int) { a.states[i], a.states[j] = a.states[j], a.states[i] }

// Push puts a state at the end.
func (a *agenda) Push(x any) { a.states = append(a.states, x.(state)) }

// Pop takes the state at the end.
func (a *agenda) Pop() any {
	last := len(a.states) - 1
	s := a.states[last]
	a.states = a.states[:last]
	return s
}

// plans yields the states to which the complete plans lead that can be carried out, from the least one on. Each step must make a state greater, so that no plan that is not complete yet leads to a lesser one.
func plans(l api.Lock, tows []api.LockTow, compare func(a, b state) int) iter.Seq[state] {
	return func(yield func(state) bool) {
		q := newQueues(tows...)
		a := &agenda{[]state{newState(l, tows...)}, compare}
		for a.Len() > 0 {
			s := heap.Pop(a).(state)
			if s.taken == q.all() && !yield(s) {
				return
			}
			for next := range s.next(q) {
				heap.Push(a, next)
			}
		}
	}
}

// bestOf returns the state to which the best of the plans that are wanted leads, or the error of a lock and tows, or ErrNone.
func bestOf(l api.Lock, tows []api.LockTow, compare func(a, b state) int, wanted func(state) bool) (state, api.Errno) {
	if e := checkWaiting(l, tows); e != api.OK {
		return state{}, e
	}
	for s := range plans(l, tows, compare) {
		if wanted(s) {
			return s, api.OK
		}
	}
	return state{}, api.ErrNone
}

// carryOut returns the state to which a plan leads, and when its steps begin and end, or the first of the errors of a plan.
func carryOut(l api.Lock, tows []api.LockTow, plan []api.LockStep) (s state, runs []api.LockRun, e api.Errno) {
	if e := checkWaiting(l, tows); e != api.OK {
		return state{}, nil, e
	}
	q := newQueues(tows...)
	if !q.complete(plan...) {
		return state{}, nil, api.ErrForm
	}
	s = newState(l, tows...)
	for _, step := range plan {
		next, fits := s.after(step, q)
		if !fits {
			return state{}, nil, api.ErrFull
		}
		s, runs = next, append(runs, next.run)
	}
	return s, runs, api.OK
}
