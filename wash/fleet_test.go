package wash_test

import (
	"math/rand"
	"slices"
	"testing"

	"thalweg/api"
	"thalweg/cases"
)

// P5.9: the example of the chapter, which of several plans is chosen, and where there is none.
func TestFleet(t *testing.T) {
	both := pair(kind(60, 5), kind(60, 5))
	dear := pair(kind(30, 1), kind(60, 100))
	alone := pair(kind(30, 1), kind(40, 1))
	alone.Apart[1][1], alone.Apart[2][2] = 1, 1
	// The cargo 2 needs two cleanings in the first tank, or one in the second one, in which the cargo 3 must not follow.
	turns := api.WashRules{
		Levels: []int{60, 0, 0, 0},
		Allow:  [][]int{{60, 60, 0, 30}, {0, 0, 0, 0}, {0, 0, 0, 0}, {0, 0, 0, 0}},
		Apart:  [][]int{{0, 0, 0, 0}, {0, 0, 0, 0}, {0, 0, 0, 1}, {0, 0, 0, 0}},
		Kinds:  []api.WashKind{kind(30, 1)},
	}
	for _, c := range []struct {
		name  string
		r     api.WashRules
		tanks [][]api.TankEvent
		jobs  []int
		want  sent
	}{
		{"the example 5", example(), tanksOf("L0", "L1"), []int{2, 1}, sent{steps: steps(0, 1, 0, -1), cost: 90000}},
		{"no cargoes", example(), tanksOf("L0"), nil, sent{}},
		{"new tanks", example(), tanksOf("", "", ""), []int{2, 2}, sent{steps: steps(0, -1, 0, -1)}},
		{"a tank that is clean", both, tanksOf("L0", "L1"), []int{2}, sent{steps: steps(1, -1)}},
		{"the last tank", both, tanksOf("L0", "L0", "L1"), []int{2}, sent{steps: steps(2, -1)}},
		{"the clean tank is kept for the second cargo", both, tanksOf("", ""), []int{0, 2}, sent{steps: steps(0, -1, 1, -1)}},
		{"each cargo in its tank", both, tanksOf("L0", ""), []int{0, 2, 0, 2}, sent{steps: steps(0, -1, 1, -1, 0, -1, 1, -1)}},
		{"a cheap cleaning of another tank", dear, tanksOf("L0", "L0 W0"), []int{2}, sent{steps: steps(1, 0), cost: 1}},
		{"few cleanings, though dear", dear, tanksOf("L0", "L0 L0"), []int{1, 2}, sent{steps: steps(0, 1, 0, -1), cost: 100}},
		{"the smallest list", both, tanksOf("L0", "L0", "L0"), []int{0, 2}, sent{steps: steps(0, -1, 0, 0), cost: 5}},
		{"the smallest list begins with the first tank", both, tanksOf("", ""), []int{2, 1}, sent{steps: steps(0, -1, 0, -1)}},
		{"the cleaning comes after the tank", both, tanksOf("L0", "L0"), []int{1, 2}, sent{steps: steps(0, 0, 0, -1), cost: 5}},
		{"a step without a cleaning, though a later step has another tank", turns, tanksOf("L0", "L0 W0"), []int{1, 2, 3}, sent{steps: steps(0, -1, 1, 0, 0, 0), cost: 2}},
		{"cargoes that must be apart", alone, tanksOf("", ""), []int{1, 1, 2, 2}, sent{steps: steps(0, -1, 1, -1, 0, -1, 1, -1)}},
		{"cargoes of one tank do not count for another", alone, tanksOf("", ""), []int{1, 1, 1}, sent{at: 2, e: api.ErrNone}},
		{"no tank for the first cargo", alone, tanksOf("L0", "L0", "L0"), []int{2, 0}, sent{e: api.ErrNone}},
		{"three tanks, one after the other", alone, tanksOf("L0", "L0", "L0"), []int{1, 1, 1, 0, 2, 2}, sent{steps: steps(0, 0, 1, 0, 2, 0, 0, -1, 1, 0, 2, 0), cost: 5}},
		{"no tank for the second cargo", alone, tanksOf("L1", "L1", "L0"), []int{1, 1, 0}, sent{at: 1, e: api.ErrNone}},
	} {
		if got := fleet(c.r, c.tanks, c.jobs); !got.same(c.want) {
			t.Errorf("%s: %v, want %v", c.name, got, c.want)
		}
	}
}

// P5.9: of all lists of steps, the one with the fewest cleanings, the least cost, and the smallest one.
func TestFleetOfAll(t *testing.T) {
	g := rand.New(rand.NewSource(10))
	seen := map[api.Errno]int{}
	for range 1500 {
		r := randomRules(g)
		n := 1 + g.Intn(3)
		tanks := randomTanks(g, r, n)
		jobs := randomJobs(g, r, g.Intn(7-n))
		if g.Intn(3) == 0 {
			tanks = slices.Repeat(tanks[:1], n)
		}
		got, want := fleet(r, tanks, jobs), fleetOf(r, tanks, jobs)
		if !got.same(want) {
			t.Fatalf("%v, %v, %v: %v, want %v", r, tanks, jobs, got, want)
		}
		seen[got.e]++
		if got.count() > 1 {
			seen[-1]++
		}
	}
	if seen[api.OK] < 300 || seen[api.ErrNone] < 300 || seen[-1] < 50 {
		t.Error(seen)
	}
}

// P5.12, P5.13: no event of a plan has a breach, Verify says what it costs, and accepts no steps that are better.
func TestFleetAndVerify(t *testing.T) {
	g := rand.New(rand.NewSource(11))
	accepted := 0
	for range 2000 {
		r := randomRules(g)
		tanks := randomTanks(g, r, 1+g.Intn(3))
		jobs := randomJobs(g, r, g.Intn(api.MaxFleetJobs+1))
		s := fleet(r, tanks, jobs)
		wantNoBreach(t, r, tanks, jobs, s)
		accepted += wantBest(t, g, r, tanks, jobs, s)
	}
	if accepted < 2000 {
		t.Error("only", accepted, "are accepted")
	}
}

// P5.15: with one tank, the plan of this tank; with one tank more, no more cleanings.
func TestMoreTanks(t *testing.T) {
	g := rand.New(rand.NewSource(12))
	fewer, found := 0, 0
	for range 3000 {
		r := randomRules(g)
		tanks := randomTanks(g, r, 3)
		jobs := randomJobs(g, r, g.Intn(api.MaxFleetJobs+1))
		p, s := plan(r, tanks[0], jobs), fleet(r, tanks[:1], jobs)
		if !s.same(p.sent()) {
			t.Fatalf("%v, %v, %v: %v, and %v", r, tanks[0], jobs, p, s)
		}
		for n := 1; n < 3; n++ {
			more := fleet(r, tanks[:n+1], jobs)
			switch {
			case s.e == api.OK && (more.e != api.OK || more.count() > s.count()):
				t.Fatalf("%v, %v, %v: %v, and %v", r, tanks[:n+1], jobs, s, more)
			case s.e == api.OK && more.count() < s.count():
				fewer++
			case s.e != api.OK && more.e == api.OK:
				found++
			}
			s = more
		}
	}
	if fewer < 100 || found < 100 {
		t.Error("only", fewer, "with fewer cleanings, and", found, "where there was no plan")
	}
}

// P5.10: which cargo is not acceptable, and what cleanings come to.
func TestVerify(t *testing.T) {
	for _, c := range []struct {
		name  string
		r     api.WashRules
		tanks [][]api.TankEvent
		jobs  []int
		steps []api.WashStep
		want  proof
	}{
		{"the example 5", example(), tanksOf("L0", "L1"), []int{2, 1}, steps(0, 1, 0, -1), proof{at: -1, washes: 1, cost: 90000}},
		{"no cargoes", example(), tanksOf("L0"), nil, nil, proof{at: -1}},
		{"two cleanings", example(), tanksOf("L0", "L1"), []int{2, 1, 0}, steps(0, 1, 0, -1, 1, 0), proof{at: -1, washes: 2, cost: 110000}},
		{"more cleanings than are needed", example(), tanksOf("", "L1"), []int{0, 2}, steps(0, 0, 1, 1), proof{at: -1, washes: 2, cost: 110000}},
		{"the first cargo", example(), tanksOf("L0", "L1"), []int{2, 1}, steps(0, 0, 0, -1), proof{at: 0}},
		{"the second cargo", example(), tanksOf("L0", "L1"), []int{2, 1}, steps(0, 1, 1, -1), proof{at: -1, washes: 1, cost: 90000}},
		{"the second cargo, in the other tank", example(), tanksOf("L0", "L1"), []int{2, 2}, steps(0, 1, 1, 0), proof{at: 1}},
		{"the last cargo, after cleanings that cost", example(), tanksOf("L0"), []int{2, 1, 1, 2}, steps(0, 1, 0, -1, 0, 0, 0, 0), proof{at: 3}},
		{"the first one of several", example(), tanksOf("L0"), []int{0, 1, 1, 2}, steps(0, -1, 0, 1, 0, 1, 0, -1), proof{at: 1}},
		{"possibly is not surely", pair(kind(0, 0), api.WashKind{Power: to(29, 60)}), tanksOf("L0"), []int{1}, steps(0, 1), proof{at: 0}},
		{"surely", pair(kind(0, 0), api.WashKind{Power: to(30, 60)}), tanksOf("L0"), []int{1}, steps(0, 1), proof{at: -1, washes: 1}},
		{"a cleaning of another tank is no help", pair(kind(60, 1), kind(60, 1)), tanksOf("L0", "L0"), []int{1, 1}, steps(1, 0, 0, -1), proof{at: 1}},
	} {
		if got := verify(c.r, c.tanks, c.jobs, c.steps); got != c.want {
			t.Errorf("%s: %v, want %v", c.name, got, c.want)
		}
	}
}

// P5.10: which steps there are.
func TestVerifySteps(t *testing.T) {
	tanks := tanksOf("", "", "")
	for n := range tanks {
		for _, c := range cases.Numbers(0, n) {
			if got, want := verify(example(), tanks[:n+1], []int{0}, steps(c.N, -1)).e, cases.Error(c.OK, api.ErrArg); got != want {
				t.Errorf("the tank %d of %d: error %d, want %d", c.N, n+1, got, want)
			}
		}
	}
	for n := range 3 {
		r := example()
		r.Kinds = r.Kinds[:n]
		for _, c := range cases.Numbers(-1, n-1) {
			if got, want := verify(r, tanks, []int{0}, steps(2, c.N)).e, cases.Error(c.OK, api.ErrArg); got != want {
				t.Errorf("the kind %d of %d: error %d, want %d", c.N, n, got, want)
			}
		}
	}
	for n := range 5 {
		if got, want := verify(example(), tanks, []int{0, 0}, slices.Repeat(steps(0, -1), n)).e, cases.Error(n == 2, api.ErrForm); got != want {
			t.Errorf("%d steps for two cargoes: error %d, want %d", n, got, want)
		}
	}
}

// verifyOf returns what Verify returns, load by load.
func verifyOf(r api.WashRules, tanks [][]api.TankEvent, jobs []int, steps []api.WashStep) proof {
	for i, step := range steps {
		l := eventsOf(tanks, jobs, steps[:i+1])[step.Tank]
		before := l[:len(l)-1]
		if !acceptable(r, before, worst(r, before), jobs[i]) {
			return proof{at: i}
		}
	}
	return proof{at: -1, washes: countOf(steps), cost: costOf(r, steps)}
}

// P5.10: steps that are accepted, or not.
func TestVerifyOfLoads(t *testing.T) {
	g := rand.New(rand.NewSource(13))
	seen := map[int]int{}
	for range 4000 {
		r := randomRules(g)
		tanks := randomTanks(g, r, 1+g.Intn(3))
		jobs := randomJobs(g, r, g.Intn(api.MaxFleetJobs+1))
		l := randomSteps(g, r, len(tanks), len(jobs))
		got := verify(r, tanks, jobs, l)
		if want := verifyOf(r, tanks, jobs, l); got != want {
			t.Fatalf("%v, %v, %v, %v: %v, want %v", r, tanks, jobs, l, got, want)
		}
		seen[got.at]++
	}
	for at := -1; at < 5; at++ {
		if seen[at] < 20 {
			t.Error(seen)
		}
	}
}
