package wash_test

import (
	"cmp"
	"iter"
	"math/rand"
	"slices"
	"strconv"
	"strings"
	"testing"

	"thalweg/api"
	"thalweg/wash"
)

// to returns bounds, and only those of a single integer.
func to(low, high int) api.Bounds { return api.Bounds{Low: low, High: high} }

func only(n int) api.Bounds { return to(n, n) }

// example returns the rules of the chapter's examples, as new memory.
func example() api.WashRules {
	return api.WashRules{
		Levels: []int{100, 60, 40},
		Fade:   to(10, 20),
		Allow:  [][]int{{100, 0, 30}, {60, 60, 0}, {40, 40, 40}},
		Apart:  [][]int{{0, 1, 0}, {0, 0, 0}, {0, 0, 0}},
		Kinds:  []api.WashKind{{Power: to(30, 40), Minutes: 60, Water: 5, Cost: 20000}, {Power: to(100, 120), Minutes: 240, Water: 20, Cost: 90000}},
	}
}

// cloneRows returns a table as new memory, and cloneRules rules.
func cloneRows[T any](rows [][]T) [][]T {
	var l [][]T
	for _, row := range rows {
		l = append(l, slices.Clone(row))
	}
	return l
}

func cloneRules(r api.WashRules) api.WashRules {
	r.Levels, r.Kinds = slices.Clone(r.Levels), slices.Clone(r.Kinds)
	r.Allow, r.Apart = cloneRows(r.Allow), cloneRows(r.Apart)
	return r
}

// load and clean return an event.
func load(cargo int) api.TankEvent { return api.TankEvent{Kind: api.TankLoad, Number: cargo} }

func clean(kind int) api.TankEvent { return api.TankEvent{Kind: api.TankWash, Number: kind} }

// events returns a history from a text like "L0 W1".
func events(text string) []api.TankEvent {
	var l []api.TankEvent
	for _, word := range strings.Fields(text) {
		n, err := strconv.Atoi(word[1:])
		if err != nil {
			panic(err)
		}
		if word[0] == 'L' {
			l = append(l, load(n))
		} else {
			l = append(l, clean(n))
		}
	}
	return l
}

// tanksOf returns several histories.
func tanksOf(texts ...string) [][]api.TankEvent {
	var l [][]api.TankEvent
	for _, text := range texts {
		l = append(l, events(text))
	}
	return l
}

// steps returns steps from tanks and kinds, one after the other.
func steps(numbers ...int) []api.WashStep {
	var l []api.WashStep
	for i := 0; i < len(numbers); i += 2 {
		l = append(l, api.WashStep{Tank: numbers[i], Wash: numbers[i+1]})
	}
	return l
}

// planned is what Plan returns, or Fewest, which has no cost.
type planned struct {
	washes   []int
	cost, at int
	e        api.Errno
}

func plan(r api.WashRules, l []api.TankEvent, jobs []int) planned {
	washes, cost, at, e := wash.Plan(r, l, jobs)
	return planned{washes, cost, at, e}
}

func fewest(r api.WashRules, l []api.TankEvent, jobs []int) planned {
	washes, at, e := wash.Fewest(r, l, jobs)
	return planned{washes, 0, at, e}
}

// same reports whether two of them are equal.
func (p planned) same(x planned) bool {
	return slices.Equal(p.washes, x.washes) && p.cost == x.cost && p.at == x.at && p.e == x.e
}

// sent is what Fleet returns.
type sent struct {
	steps    []api.WashStep
	cost, at int
	e        api.Errno
}

func fleet(r api.WashRules, tanks [][]api.TankEvent, jobs []int) sent {
	steps, cost, at, e := wash.Fleet(r, tanks, jobs)
	return sent{steps, cost, at, e}
}

// same reports whether two of them are equal.
func (s sent) same(x sent) bool {
	return slices.Equal(s.steps, x.steps) && s.cost == x.cost && s.at == x.at && s.e == x.e
}

// sent returns a plan as that of a fleet with one tank.
func (p planned) sent() sent {
	s := sent{cost: p.cost, at: p.at, e: p.e}
	for _, kind := range p.washes {
		s.steps = append(s.steps, api.WashStep{Wash: kind})
	}
	return s
}

// count returns the number of the cleanings.
func (s sent) count() int { return countOf(s.steps) }

func (p planned) count() int { return p.sent().count() }

// countOf returns the number of the cleanings in steps.
func countOf(steps []api.WashStep) int {
	n := 0
	for _, step := range steps {
		if step.Wash >= 0 {
			n++
		}
	}
	return n
}

// proof is what Verify returns.
type proof struct {
	at, washes, cost int
	e                api.Errno
}

func verify(r api.WashRules, tanks [][]api.TankEvent, jobs []int, steps []api.WashStep) proof {
	at, washes, cost, e := wash.Verify(r, tanks, jobs, steps)
	return proof{at, washes, cost, e}
}

// reduced returns residues after each of them was reduced by a number.
func reduced(residues []int, by int) []int {
	var l []int
	for _, n := range residues {
		l = append(l, max(0, n-by))
	}
	return l
}

// after returns residues after one more event in which so much was the number that reduced them.
func after(r api.WashRules, residues []int, x api.TankEvent, by int) []int {
	l := reduced(residues, by)
	if x.Kind == api.TankLoad {
		l[x.Number] = r.Levels[x.Number]
	}
	return l
}

// numbersOf returns the bounds of the number by which an event reduces the residues.
func numbersOf(r api.WashRules, x api.TankEvent) api.Bounds {
	if x.Kind == api.TankLoad {
		return r.Fade
	}
	return r.Kinds[x.Number].Power
}

// truths yields the residues after a history for each choice of all numbers.
func truths(r api.WashRules, l []api.TankEvent) iter.Seq[[]int] {
	return func(yield func([]int) bool) {
		if len(l) == 0 {
			yield(make([]int, len(r.Levels)))
			return
		}
		last := l[len(l)-1]
		b := numbersOf(r, last)
		for residues := range truths(r, l[:len(l)-1]) {
			for by := b.Low; by <= b.High; by++ {
				if !yield(after(r, residues, last, by)) {
					return
				}
			}
		}
	}
}

// worst returns the residues after a history, each event of which reduced them by the least number.
func worst(r api.WashRules, l []api.TankEvent) []int {
	residues := make([]int, len(r.Levels))
	for _, x := range l {
		residues = after(r, residues, x, numbersOf(r, x).Low)
	}
	return residues
}

// best returns the residues after a history, each event of which reduced them by the greatest number.
func best(r api.WashRules, l []api.TankEvent) []int {
	residues := make([]int, len(r.Levels))
	for _, x := range l {
		residues = after(r, residues, x, numbersOf(r, x).High)
	}
	return residues
}

// ofTruths reports whether a condition on the residues after a history holds for all truths, and whether it does for one.
func ofTruths(r api.WashRules, l []api.TankEvent, holds func(residues []int) bool) (all, one bool) {
	all = true
	for residues := range truths(r, l) {
		ok := holds(residues)
		all, one = all && ok, one || ok
	}
	return all, one
}

// forbids reports whether the cargo p forbids another one after a history that truly left these residues.
func forbids(r api.WashRules, l []api.TankEvent, residues []int, p, cargo int) bool {
	later := 0
	for _, x := range slices.Backward(l) {
		if x == load(p) {
			return residues[p] > r.Allow[p][cargo] || later < r.Apart[p][cargo]
		}
		if x.Kind == api.TankLoad {
			later++
		}
	}
	return false
}

// acceptable reports whether no cargo forbids another one after a history that truly left these residues.
func acceptable(r api.WashRules, l []api.TankEvent, residues []int, cargo int) bool {
	for p := range r.Levels {
		if forbids(r, l, residues, p, cargo) {
			return false
		}
	}
	return true
}

// stepsOf yields all lists of steps that carry cargoes in tanks, from the smallest list on, but none that begins with steps by which a cargo is not surely acceptable; these are told, with the cargo, to stops.
func stepsOf(r api.WashRules, tanks [][]api.TankEvent, jobs []int, stops func(at int)) iter.Seq[[]api.WashStep] {
	return func(yield func([]api.WashStep) bool) {
		extend(r, tanks, jobs, nil, stops, yield)
	}
}

// extend yields the lists that begin as given, and reports whether more are wanted.
func extend(r api.WashRules, tanks [][]api.TankEvent, jobs []int, done []api.WashStep, stops func(int), yield func([]api.WashStep) bool) bool {
	if len(done) == len(jobs) {
		return yield(slices.Clone(done))
	}
	cargo := jobs[len(done)]
	for t, l := range tanks {
		for kind := -1; kind < len(r.Kinds); kind++ {
			ready := l
			if kind >= 0 {
				ready = append(slices.Clone(l), clean(kind))
			}
			if !acceptable(r, ready, worst(r, ready), cargo) {
				stops(len(done))
				continue
			}
			next := slices.Clone(tanks)
			next[t] = append(slices.Clone(ready), load(cargo))
			if !extend(r, next, jobs, append(done, api.WashStep{Tank: t, Wash: kind}), stops, yield) {
				return false
			}
		}
	}
	return true
}

// costOf returns the sum of the costs of the cleanings in steps.
func costOf(r api.WashRules, steps []api.WashStep) int {
	n := 0
	for _, step := range steps {
		if step.Wash >= 0 {
			n += r.Kinds[step.Wash].Cost
		}
	}
	return n
}

// fleetOf returns what Fleet returns, by all lists of steps.
func fleetOf(r api.WashRules, tanks [][]api.TankEvent, jobs []int) sent {
	furthest := 0
	all := slices.Collect(stepsOf(r, tanks, jobs, func(at int) { furthest = max(furthest, at) }))
	if len(all) == 0 {
		return sent{at: furthest, e: api.ErrNone}
	}
	// Of several equal ones MinFunc returns the first one, which is the smallest list.
	l := slices.MinFunc(all, func(a, b []api.WashStep) int {
		return cmp.Or(cmp.Compare(countOf(a), countOf(b)), cmp.Compare(costOf(r, a), costOf(r, b)))
	})
	return sent{steps: l, cost: costOf(r, l)}
}

// planOf returns what Plan returns, by all lists of cleanings.
func planOf(r api.WashRules, l []api.TankEvent, jobs []int) planned {
	s := fleetOf(r, [][]api.TankEvent{l}, jobs)
	p := planned{cost: s.cost, at: s.at, e: s.e}
	for _, step := range s.steps {
		p.washes = append(p.washes, step.Wash)
	}
	return p
}

// randomTable returns n lists of n integers that are at most so great.
func randomTable(g *rand.Rand, n, most int) [][]int {
	var table [][]int
	for range n {
		table = append(table, randomNumbers(g, n, most+1))
	}
	return table
}

// randomNumbers returns integers from 0 on below an end.
func randomNumbers(g *rand.Rand, n, end int) []int {
	var l []int
	for range n {
		l = append(l, g.Intn(end))
	}
	return l
}

// randomBounds returns bounds, and often only those of a single integer.
func randomBounds(g *rand.Rand, most int) api.Bounds {
	low := g.Intn(most + 1)
	return to(low, low+g.Intn(2)*g.Intn(4))
}

// randomRules returns rules with small numbers, so that many of them are equal.
func randomRules(g *rand.Rand) api.WashRules {
	n := 1 + g.Intn(5)
	r := api.WashRules{Levels: randomNumbers(g, n, 20), Fade: randomBounds(g, 3), Allow: randomTable(g, n, 20), Apart: randomTable(g, n, 0)}
	for range g.Intn(1 + n) {
		r.Apart[g.Intn(n)][g.Intn(n)] = g.Intn(4)
	}
	for range g.Intn(4) {
		r.Kinds = append(r.Kinds, api.WashKind{Power: randomBounds(g, 15), Minutes: g.Intn(100), Water: g.Intn(10), Cost: g.Intn(5)})
	}
	return r
}

// randomHistory returns a history of so many events.
func randomHistory(g *rand.Rand, r api.WashRules, n int) []api.TankEvent {
	var l []api.TankEvent
	for range n {
		if len(r.Kinds) > 0 && g.Intn(3) == 0 {
			l = append(l, clean(g.Intn(len(r.Kinds))))
		} else {
			l = append(l, load(g.Intn(len(r.Levels))))
		}
	}
	return l
}

// randomTanks returns so many histories.
func randomTanks(g *rand.Rand, r api.WashRules, n int) [][]api.TankEvent {
	var l [][]api.TankEvent
	for range n {
		l = append(l, randomHistory(g, r, g.Intn(5)))
	}
	return l
}

// randomJobs returns so many cargoes.
func randomJobs(g *rand.Rand, r api.WashRules, n int) []int {
	return randomNumbers(g, n, len(r.Levels))
}

// randomSteps returns steps for so many cargoes.
func randomSteps(g *rand.Rand, r api.WashRules, tanks, n int) []api.WashStep {
	var l []api.WashStep
	for range n {
		l = append(l, api.WashStep{Tank: g.Intn(tanks), Wash: g.Intn(len(r.Kinds)+1) - 1})
	}
	return l
}

// mustPlan returns what Plan returns, and fails if it is an error other than ErrNone.
func mustPlan(t *testing.T, r api.WashRules, l []api.TankEvent, jobs []int) planned {
	t.Helper()
	p := plan(r, l, jobs)
	if p.e != api.OK && p.e != api.ErrNone {
		t.Fatalf("%v, %v, %v: error %d", r, l, jobs, p.e)
	}
	return p
}

// eventsOf returns the histories of tanks after steps were carried out.
func eventsOf(tanks [][]api.TankEvent, jobs []int, steps []api.WashStep) [][]api.TankEvent {
	all := cloneRows(tanks)
	for i, step := range steps {
		if step.Wash >= 0 {
			all[step.Tank] = append(all[step.Tank], clean(step.Wash))
		}
		all[step.Tank] = append(all[step.Tank], load(jobs[i]))
	}
	return all
}

// wantNoBreach fails if one of the events of a plan has a breach.
func wantNoBreach(t *testing.T, r api.WashRules, tanks [][]api.TankEvent, jobs []int, s sent) {
	t.Helper()
	for i, l := range eventsOf(tanks, jobs, s.steps) {
		found, e := wash.Audit(r, l)
		if e != api.OK || slices.ContainsFunc(found, func(b api.WashBreach) bool { return b.Event >= len(tanks[i]) }) {
			t.Fatalf("%v, %v, %v: %v has %v", r, tanks, jobs, s, found)
		}
	}
}

// wantBest fails unless Verify accepts a plan, and none of some other steps that are better; it returns how many of these are accepted.
func wantBest(t *testing.T, g *rand.Rand, r api.WashRules, tanks [][]api.TankEvent, jobs []int, s sent) int {
	t.Helper()
	if s.e == api.OK && verify(r, tanks, jobs, s.steps) != (proof{at: -1, washes: s.count(), cost: s.cost}) {
		t.Fatalf("%v, %v, %v: %v is not accepted", r, tanks, jobs, s)
	}
	accepted := 0
	for range 20 {
		x := verify(r, tanks, jobs, randomSteps(g, r, len(tanks), len(jobs)))
		if x.at >= 0 {
			continue
		}
		accepted++
		if s.e != api.OK || x.washes < s.count() || x.washes == s.count() && x.cost < s.cost {
			t.Fatalf("%v, %v, %v: %v, and %v", r, tanks, jobs, s, x)
		}
	}
	return accepted
}
