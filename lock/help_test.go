package lock_test

import (
	"cmp"
	"iter"
	"math/rand"
	"slices"
	"strconv"
	"testing"

	"thalweg/api"
	"thalweg/lock"
)

// to returns bounds, and only those of a single integer.
func to(low, high int) api.Bounds { return api.Bounds{Low: low, High: high} }

func only(n int) api.Bounds { return to(n, n) }

// example is the lock of the chapter's examples.
var example = api.Lock{Length: 100, Cycle: 20, Turn: 10, Fill: 1000, Save: 40}

// high returns a lock whose chamber is at the high level at first.
func high(l api.Lock) api.Lock {
	l.High = true
	return l
}

// goesUp and goesDown return tows with the weight 1 that displace nothing.
func goesUp(arrive, length int) api.LockTow {
	return api.LockTow{Up: true, Arrive: arrive, Length: length, Weight: 1}
}

func goesDown(arrive, length int) api.LockTow {
	return api.LockTow{Arrive: arrive, Length: length, Weight: 1}
}

// exampleTows returns the tows of the chapter's examples, as new memory.
func exampleTows() []api.LockTow {
	return []api.LockTow{{Up: true, Length: 60, Weight: 1, Push: 500}, {Arrive: 5, Length: 80, Weight: 2, Push: 300}, {Up: true, Arrive: 10, Length: 30, Weight: 1}}
}

// steps returns a plan from texts like u2 and d1.
func steps(texts ...string) []api.LockStep {
	var plan []api.LockStep
	for _, text := range texts {
		n, err := strconv.Atoi(text[1:])
		if err != nil {
			panic(err)
		}
		plan = append(plan, api.LockStep{Up: text[0] == 'u', Tows: n})
	}
	return plan
}

// runs returns runs from starts and ends, one after the other.
func runs(minutes ...int) []api.LockRun {
	var l []api.LockRun
	for i := 0; i < len(minutes); i += 2 {
		l = append(l, api.LockRun{Start: minutes[i], End: minutes[i+1]})
	}
	return l
}

// ran is what Run returns.
type ran struct {
	runs        []api.LockRun
	cost, moves int
	e           api.Errno
}

// run calls Run.
func run(l api.Lock, tows []api.LockTow, plan []api.LockStep) ran {
	r, cost, moves, e := lock.Run(l, tows, plan)
	return ran{r, cost, moves, e}
}

// same reports whether two results of Run are equal.
func (r ran) same(x ran) bool {
	return slices.Equal(r.runs, x.runs) && r.cost == x.cost && r.moves == x.moves && r.e == x.e
}

// mustRun returns what Run returns, and fails if it is an error.
func mustRun(t *testing.T, l api.Lock, tows []api.LockTow, plan []api.LockStep) ran {
	t.Helper()
	r := run(l, tows, plan)
	if r.e != api.OK {
		t.Fatalf("%v, %v, %v: error %d", l, tows, plan, r.e)
	}
	return r
}

// mustWater returns what Water returns, and fails if it is an error.
func mustWater(t *testing.T, l api.Lock, tows []api.LockTow, plan []api.LockStep) api.LockWater {
	t.Helper()
	w, e := lock.Water(l, tows, plan)
	if e != api.OK {
		t.Fatalf("%v, %v, %v: error %d", l, tows, plan, e)
	}
	return w
}

// choice is what Best and Thrift return.
type choice struct {
	plan []api.LockStep
	cost int
	e    api.Errno
}

// best calls Best, thrift calls Thrift.
func best(l api.Lock, tows []api.LockTow) choice {
	plan, cost, e := lock.Best(l, tows)
	return choice{plan, cost, e}
}

func thrift(l api.Lock, tows []api.LockTow, most int) choice {
	plan, cost, e := lock.Thrift(l, tows, most)
	return choice{plan, cost, e}
}

// same reports whether two choices are equal.
func (c choice) same(x choice) bool {
	return slices.Equal(c.plan, x.plan) && c.cost == x.cost && c.e == x.e
}

// teller carries out a plan slowly: minute by minute, and cubic meter by cubic meter.
type teller struct {
	lock   api.Lock
	high   bool
	minute int
	moves  int
	water  api.LockWater
}

// move fills or empties the chamber, in so many minutes.
func (x *teller) move(minutes int) {
	if x.high {
		for n := range x.lock.Fill {
			x.water.Chamber--
			// A cubic meter is kept when the percents of all until now are a whole one more.
			if (n+1)*x.lock.Save/100 > n*x.lock.Save/100 {
				x.water.Basin++
			} else {
				x.water.Lower++
			}
		}
	} else {
		for range x.lock.Fill {
			x.water.Chamber++
			if x.water.Basin > 0 {
				x.water.Basin--
			} else {
				x.water.Upper--
			}
		}
	}
	x.high = !x.high
	x.moves++
	for range minutes {
		x.minute++
	}
}

// lift takes tows, and returns when.
func (x *teller) lift(up bool, tows []api.LockTow) api.LockRun {
	if x.high == up {
		x.move(x.lock.Turn)
	}
	for slices.ContainsFunc(tows, func(t api.LockTow) bool { return t.Arrive > x.minute }) {
		x.minute++
	}
	start, left := x.minute, lengthOf(tows)
	for left > 0 {
		if x.high == up {
			x.move(x.lock.Turn)
		}
		x.move(x.lock.Cycle)
		left -= x.lock.Length
	}
	for _, t := range tows {
		for range t.Push {
			if t.Up {
				x.water.Upper--
				x.water.Lower++
			} else {
				x.water.Upper++
				x.water.Lower--
			}
		}
	}
	return api.LockRun{Start: start, End: x.minute}
}

// lengthOf returns how long tows are in all.
func lengthOf(tows []api.LockTow) int {
	n := 0
	for _, t := range tows {
		n += t.Length
	}
	return n
}

// nextTow returns the number of the next tow that goes up, or down; or -1 if all of these have gone.
func nextTow(tows []api.LockTow, gone []bool, up bool) int {
	next := -1
	for i, t := range tows {
		if !gone[i] && t.Up == up && (next < 0 || t.Arrive < tows[next].Arrive) {
			next = i
		}
	}
	return next
}

// groupsOf returns the numbers of the tows that each step takes; or false if the plan is not complete.
func groupsOf(tows []api.LockTow, plan []api.LockStep) ([][]int, bool) {
	gone := make([]bool, len(tows))
	var groups [][]int
	for _, step := range plan {
		var group []int
		for range step.Tows {
			i := nextTow(tows, gone, step.Up)
			if i < 0 {
				return nil, false
			}
			gone[i] = true
			group = append(group, i)
		}
		if len(group) == 0 {
			return nil, false
		}
		groups = append(groups, group)
	}
	return groups, !slices.Contains(gone, false)
}

// tell returns what Run and Water return for a valid lock and valid tows.
func tell(l api.Lock, tows []api.LockTow, plan []api.LockStep) (ran, api.LockWater) {
	groups, complete := groupsOf(tows, plan)
	if !complete {
		return ran{e: api.ErrForm}, api.LockWater{}
	}
	x := teller{lock: l, high: l.High}
	var r ran
	for i, group := range groups {
		var together []api.LockTow
		for _, n := range group {
			together = append(together, tows[n])
		}
		if len(group) > 1 && lengthOf(together) > l.Length {
			return ran{e: api.ErrFull}, api.LockWater{}
		}
		done := x.lift(plan[i].Up, together)
		r.runs = append(r.runs, done)
		for _, t := range together {
			r.cost += t.Weight * (done.End - t.Arrive)
		}
	}
	r.moves = x.moves
	return r, x.water
}

// countUp returns how many tows go up.
func countUp(tows []api.LockTow) int {
	n := 0
	for _, t := range tows {
		if t.Up {
			n++
		}
	}
	return n
}

// plansOf yields all complete plans, from the smallest list on, as new memory.
func plansOf(tows []api.LockTow) iter.Seq[[]api.LockStep] {
	return func(yield func([]api.LockStep) bool) {
		ups := countUp(tows)
		extend(nil, len(tows)-ups, ups, yield)
	}
}

// extend yields the plans that begin as given and take so many more tows, and reports whether more are wanted.
func extend(plan []api.LockStep, downs, ups int, yield func([]api.LockStep) bool) bool {
	if downs+ups == 0 {
		return yield(slices.Clone(plan))
	}
	for n := 1; n <= downs; n++ {
		if !extend(append(plan, api.LockStep{Tows: n}), downs-n, ups, yield) {
			return false
		}
	}
	for n := 1; n <= ups; n++ {
		if !extend(append(plan, api.LockStep{Up: true, Tows: n}), downs, ups-n, yield) {
			return false
		}
	}
	return true
}

// trial is a plan that can be carried out, and what it comes to.
type trial struct {
	plan  []api.LockStep
	ran   ran
	water api.LockWater
}

// trialsOf returns all complete plans that can be carried out, from the smallest list on.
func trialsOf(l api.Lock, tows []api.LockTow) []trial {
	var all []trial
	for plan := range plansOf(tows) {
		if r, w := tell(l, tows, plan); r.e == api.OK {
			all = append(all, trial{plan, r, w})
		}
	}
	return all
}

// bestOf returns what Best returns, by all plans.
func bestOf(l api.Lock, tows []api.LockTow) choice {
	// Of several equal ones MinFunc returns the first one, which is the smallest list.
	x := slices.MinFunc(trialsOf(l, tows), func(a, b trial) int {
		return cmp.Or(cmp.Compare(a.ran.cost, b.ran.cost), cmp.Compare(a.ran.moves, b.ran.moves))
	})
	return choice{x.plan, x.ran.cost, api.OK}
}

// thriftOf returns what Thrift returns, by all plans.
func thriftOf(l api.Lock, tows []api.LockTow, most int) choice {
	cheap := slices.DeleteFunc(trialsOf(l, tows), func(x trial) bool { return x.ran.cost > most })
	if len(cheap) == 0 {
		return choice{e: api.ErrNone}
	}
	x := slices.MinFunc(cheap, func(a, b trial) int {
		return cmp.Or(cmp.Compare(b.water.Upper, a.water.Upper), cmp.Compare(a.ran.cost, b.ran.cost), cmp.Compare(a.ran.moves, b.ran.moves))
	})
	return choice{x.plan, x.ran.cost, api.OK}
}

// randomLock returns a lock.
func randomLock(g *rand.Rand) api.Lock {
	return api.Lock{Length: 1 + g.Intn(100), Cycle: 1 + g.Intn(30), Turn: g.Intn(40), Fill: g.Intn(1 + g.Intn(500)), Save: g.Intn(api.MaxSave + 1), High: g.Intn(2) == 0}
}

// randomTows returns tows for a lock: some are small, some are longer than the chamber, and some arrive together.
func randomTows(g *rand.Rand, l api.Lock, n int) []api.LockTow {
	var tows []api.LockTow
	for range n {
		longest := 1 + l.Length/2
		if g.Intn(4) == 0 {
			longest = api.MaxLockParts * l.Length
		}
		tows = append(tows, api.LockTow{Up: g.Intn(2) == 0, Arrive: g.Intn(1 + g.Intn(100)), Length: 1 + g.Intn(longest), Weight: g.Intn(4), Push: g.Intn(50)})
	}
	return tows
}

// randomPlan returns a plan that takes all tows, unless it is broken.
func randomPlan(g *rand.Rand, tows []api.LockTow) []api.LockStep {
	ups := countUp(tows)
	left := map[bool]int{true: ups, false: len(tows) - ups}
	var plan []api.LockStep
	for left[true]+left[false] > 0 {
		up := g.Intn(2) == 0
		if left[up] > 0 {
			n := 1 + g.Intn(min(left[up], 2))
			left[up] -= n
			plan = append(plan, api.LockStep{Up: up, Tows: n})
		}
	}
	if len(plan) > 0 && g.Intn(8) == 0 {
		step := &plan[g.Intn(len(plan))]
		step.Tows += g.Intn(4) - 2
		step.Up = step.Up != (g.Intn(4) == 0)
	}
	return plan
}
