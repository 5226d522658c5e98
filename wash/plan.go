package wash

import (
	"cmp"
	"iter"
	"slices"

	"thalweg/api"
)

// planner is valid rules, and the cargoes that are to be carried.
type planner struct {
	rules
	jobs []int
}

// course is a choice of tanks for the first cargoes, and the reach of each tank. What is done to one tank changes nothing in the others: their best ways are found one by one.
type course struct {
	tanks []int
	fleet [api.MaxFleetTanks]reach
}

// plan is steps for the first cargoes, and the bill of their cleanings.
type plan struct {
	bill
	steps []api.WashStep
}

// newCourse returns the course without cargoes.
func (p planner) newCourse(tanks [][]api.TankEvent) course {
	var c course
	for t, l := range tanks {
		c.fleet[t] = reach{p.after(l).worst: way{}}
	}
	return c
}

// longer yields the courses with one cargo more.
func (p planner) longer(c course) iter.Seq[course] {
	return func(yield func(course) bool) {
		left := p.jobs[len(c.tanks):]
		if len(left) == 0 {
			return
		}
		for t, l := range c.fleet {
			next := c
			next.tanks = append(slices.Clip(c.tanks), t)
			next.fleet[t] = l.after(p.rules, left)
			if len(next.fleet[t]) > 0 && !yield(next) {
				return
			}
		}
	}
}

// courses yields a course and all that begin with it, each one after those with which it begins.
func (p planner) courses(c course) iter.Seq[course] {
	return func(yield func(course) bool) {
		if !yield(c) {
			return
		}
		for next := range p.longer(c) {
			for x := range p.courses(next) {
				if !yield(x) {
					return
				}
			}
		}
	}
}

// plan returns the best plan with these tanks.
func (c course) plan() plan {
	var p plan
	var left [api.MaxFleetTanks][]int
	for t, l := range c.fleet {
		if len(l) > 0 {
			w := l.best()
			p.bill, left[t] = p.plus(w.bill), w.kinds
		}
	}
	for _, t := range c.tanks {
		p.steps = append(p.steps, api.WashStep{Tank: t, Wash: left[t][0]})
		left[t] = left[t][1:]
	}
	return p
}

// compare compares plans by their bills, and then by their steps.
func (p plan) compare(x plan) int {
	return cmp.Or(p.bill.compare(x.bill), slices.CompareFunc(p.steps, x.steps, compareSteps))
}

// compareSteps compares steps by their tanks, and then by their cleanings.
func compareSteps(a, b api.WashStep) int {
	return cmp.Or(cmp.Compare(a.Tank, b.Tank), cmp.Compare(a.Wash, b.Wash))
}

// bestPlans returns the best plan for each number of the cargoes, from none on, or ErrNone with the first cargo that no plan can carry.
func bestPlans(r api.WashRules, tanks [][]api.TankEvent, jobs []int) (plans []plan, at int, e api.Errno) {
	p := planner{rules{r}, jobs}
	for c := range p.courses(p.newCourse(tanks)) {
		n, x := len(c.tanks), c.plan()
		if n == len(plans) {
			plans = append(plans, x)
		} else if x.compare(plans[n]) < 0 {
			plans[n] = x
		}
	}
	if len(plans) <= len(jobs) {
		return nil, len(plans) - 1, api.ErrNone
	}
	return plans, 0, api.OK
}

// plansOfTank returns the errors of Plan, and what bestPlans returns for one tank.
func plansOfTank(r api.WashRules, l []api.TankEvent, jobs []int) (plans []plan, at int, e api.Errno) {
	if e := cmp.Or(checkTank(r, l), checkJobs(r, jobs, api.MaxWashJobs)); e != api.OK {
		return nil, 0, e
	}
	return bestPlans(r, [][]api.TankEvent{l}, jobs)
}

// carryOut returns the first cargo that is not surely acceptable when steps are carried out, or -1, and then the bill of the cleanings.
func (r rules) carryOut(tanks [][]api.TankEvent, jobs []int, steps []api.WashStep) (int, bill) {
	var fleet [api.MaxFleetTanks]tank
	for t, l := range tanks {
		fleet[t] = r.after(l).worst
	}
	var all bill
	for i, step := range steps {
		next, b, ok := r.carried(fleet[step.Tank], step.Wash, jobs[i])
		if !ok {
			return i, bill{}
		}
		fleet[step.Tank] = next
		all = all.plus(b)
	}
	return -1, all
}
