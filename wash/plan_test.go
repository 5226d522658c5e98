package wash_test

import (
	"math/rand"
	"slices"
	"testing"

	"thalweg/api"
)

// pair returns rules with two kinds of cleaning: the cargo 0 leaves 60, of which the cargo 1 allows 30 and the cargo 2 nothing; the others leave nothing.
func pair(weak, strong api.WashKind) api.WashRules {
	return api.WashRules{
		Levels: []int{60, 0, 0},
		Allow:  [][]int{{60, 30, 0}, {0, 0, 0}, {0, 0, 0}},
		Apart:  [][]int{{0, 0, 0}, {0, 0, 0}, {0, 0, 0}},
		Kinds:  []api.WashKind{weak, strong},
	}
}

// kind returns a kind of cleaning that reduces the residues by one number only.
func kind(power, cost int) api.WashKind { return api.WashKind{Power: only(power), Cost: cost} }

// P5.7, P5.8: the examples of the chapter, which of several plans is chosen, and where there is none.
func TestPlan(t *testing.T) {
	unsure := pair(kind(30, 1), api.WashKind{Power: to(59, 60), Cost: 9})
	faded := pair(kind(20, 1), kind(30, 1))
	faded.Fade = to(10, 60)
	far := example()
	far.Apart[2] = []int{3, 0, 0}
	for _, c := range []struct {
		name, history string
		r             api.WashRules
		jobs          []int
		want          planned
		fewest        []int
	}{
		{"the example 4", "L0", example(), []int{2, 1}, planned{washes: []int{1, -1}, cost: 90000}, []int{1, 1}},
		{"the example 4, with no list", "L0", example(), []int{1}, planned{at: 0, e: api.ErrNone}, nil},
		{"no cargoes", "", example(), nil, planned{}, nil}, {"no cargoes after some", "L0 W0", example(), []int{}, planned{}, nil},
		{"a new tank", "", example(), []int{2}, planned{washes: []int{-1}}, []int{0}},
		{"a clean tank is not cleaned", "L0 W1", example(), []int{2}, planned{washes: []int{-1}}, []int{0}},
		{"few cleanings, though dear", "L0", pair(kind(30, 1), kind(60, 100)), []int{1, 2}, planned{washes: []int{1, -1}, cost: 100}, []int{1, 1}},
		{"a cheap one is enough", "L0", pair(kind(30, 1), kind(60, 100)), []int{1}, planned{washes: []int{0}, cost: 1}, []int{1}},
		{"the cheaper one", "L0", pair(kind(60, 5), kind(60, 4)), []int{1}, planned{washes: []int{1}, cost: 4}, []int{1}},
		{"the smaller one", "L0", pair(kind(60, 5), kind(60, 5)), []int{1, 2}, planned{washes: []int{0, -1}, cost: 5}, []int{1, 1}},
		{"as late as possible", "L0", pair(kind(60, 5), kind(60, 5)), []int{0, 0, 2}, planned{washes: []int{-1, -1, 0}, cost: 5}, []int{0, 0, 1}},
		{"a weak one first", "L0", pair(kind(30, 5), kind(40, 5)), []int{1, 2}, planned{washes: []int{0, 0}, cost: 10}, []int{1, 2}},
		{"a strong one is needed once", "L0", pair(kind(25, 5), kind(40, 7)), []int{1, 2}, planned{washes: []int{1, 0}, cost: 12}, []int{1, 2}},
		{"a strong one may come second", "L0", pair(kind(30, 5), kind(40, 5)), []int{1, 0, 1, 2}, planned{washes: []int{0, -1, 0, 0}, cost: 15}, []int{1, 1, 2, 3}},
		{"just one cleaning before each", "L0", pair(kind(30, 1), kind(50, 1)), []int{2}, planned{e: api.ErrNone}, nil},
		{"which cargo has no list", "L0", pair(kind(20, 1), kind(29, 1)), []int{0, 0, 1, 0}, planned{at: 2, e: api.ErrNone}, nil},
		{"an earlier cleaning is no help when the cargo is loaded again", "", pair(kind(20, 1), kind(29, 1)), []int{0, 1}, planned{at: 1, e: api.ErrNone}, nil},
		{"surely, not possibly", "L0", unsure, []int{2}, planned{e: api.ErrNone}, nil},
		{"surely, with two", "L0", unsure, []int{1, 2}, planned{washes: []int{0, 0}, cost: 2}, []int{1, 2}},
		{"with what surely fades", "L0", faded, []int{1, 1, 2}, planned{washes: []int{1, -1, 0}, cost: 2}, []int{1, 1, 2}},
		{"an event of the history counts", "L0 L1 L1", faded, []int{2}, planned{e: api.ErrNone}, nil},
		{"an event of the history suffices", "L0 L1 L1 L1", faded, []int{2}, planned{washes: []int{1}, cost: 1}, []int{1}},
		{"apart from a cargo of the history", "L2 L1", far, []int{0}, planned{e: api.ErrNone}, nil},
		{"apart by cargoes of the plan", "L2 W1 L1", far, []int{1, 1, 0}, planned{washes: []int{-1, -1, -1}}, []int{0, 0, 0}},
		{"not apart by as many", "L2 W1 L1", far, []int{1, 0}, planned{at: 1, e: api.ErrNone}, nil},
	} {
		if got := plan(c.r, events(c.history), c.jobs); !got.same(c.want) {
			t.Errorf("%s: %v, want %v", c.name, got, c.want)
		}
		if got, want := fewest(c.r, events(c.history), c.jobs), (planned{washes: c.fewest, at: c.want.at, e: c.want.e}); !got.same(want) {
			t.Errorf("%s: %v, want %v", c.name, got, want)
		}
	}
}

// P5.7: without kinds, nothing can be done.
func TestPlanWithoutKinds(t *testing.T) {
	r := example()
	r.Kinds = nil
	if got := plan(r, nil, []int{2, 0, 0}); !got.same(planned{washes: []int{-1, -1, -1}}) {
		t.Error(got)
	}
	if got := plan(r, nil, []int{0, 0, 2, 0}); !got.same(planned{at: 2, e: api.ErrNone}) {
		t.Error(got)
	}
}

// P5.7, P5.8, P5.14: of all lists, the one with the fewest cleanings, the least cost, and the smallest one.
func TestPlanOfAll(t *testing.T) {
	g := rand.New(rand.NewSource(5))
	seen := map[api.Errno]int{}
	for range 4000 {
		r := randomRules(g)
		l := randomHistory(g, r, g.Intn(8))
		jobs := randomJobs(g, r, g.Intn(6))
		got, want := plan(r, l, jobs), planOf(r, l, jobs)
		if !got.same(want) {
			t.Fatalf("%v, %v, %v: %v, want %v", r, l, jobs, got, want)
		}
		wantFewest(t, r, l, jobs, got)
		seen[got.e]++
		if got.count() > 1 {
			seen[-1]++
		}
	}
	if seen[api.OK] < 1000 || seen[api.ErrNone] < 1000 || seen[-1] < 300 {
		t.Error(seen)
	}
}

// wantFewest fails unless Fewest counts the cleanings of the plans of all beginnings, which never fall, and are at most one for each cargo.
func wantFewest(t *testing.T, r api.WashRules, l []api.TankEvent, jobs []int, p planned) {
	t.Helper()
	got := fewest(r, l, jobs)
	if got.e != p.e || got.at != p.at || got.e != api.OK && len(got.washes) > 0 || got.e == api.OK && len(got.washes) != len(jobs) {
		t.Fatalf("%v, %v, %v: %v, and %v", r, l, jobs, got, p)
	}
	for j, n := range got.washes {
		if x := plan(r, l, jobs[:j+1]); x.e != api.OK || x.count() != n || n > j+1 || j > 0 && n < got.washes[j-1] {
			t.Fatalf("%v, %v, %v: %v, and %v", r, l, jobs, got, x)
		}
	}
}

// P5.7: more cargoes, of which some lists are in the way of others.
func TestLongPlans(t *testing.T) {
	g := rand.New(rand.NewSource(6))
	many := 0
	for range 150 {
		r := randomRules(g)
		r.Kinds = slices.Repeat(r.Kinds, 2)
		r.Kinds = r.Kinds[:min(len(r.Kinds), 2)]
		r.Apart = randomTable(g, len(r.Levels), 0)
		for i := range r.Kinds {
			r.Kinds[i].Power = randomBounds(g, 8)
		}
		for _, row := range r.Allow {
			for c := range row {
				row[c] += g.Intn(10)
			}
		}
		l := randomHistory(g, r, g.Intn(8))
		jobs := randomJobs(g, r, 8+g.Intn(2))
		got := plan(r, l, jobs)
		if want := planOf(r, l, jobs); !got.same(want) {
			t.Fatalf("%v, %v, %v: %v, want %v", r, l, jobs, got, want)
		}
		if got.count() > 2 {
			many++
		}
	}
	if many < 10 {
		t.Error("only", many, "with more than two cleanings")
	}
}

// most returns rules, and cargoes for a tank with a history, with as many plans as possible: hardly any two lists of cleanings leave the same, and just the last cargo tells which of them are too weak.
func most() (api.WashRules, []api.TankEvent, []int) {
	r := api.WashRules{
		Fade:  to(100, 200),
		Apart: make([][]int, 8),
		Kinds: []api.WashKind{kind(128132, 139), kind(99535, 109), kind(114633, 126), kind(106621, 113)},
	}
	var l []api.TankEvent
	for p, allow := range []int{685000, 711000, 408000, 349000, 308000, 622000, 792000, 586000} {
		r.Levels = append(r.Levels, 900000+10*p)
		r.Apart[p] = make([]int, 8)
		r.Allow = append(r.Allow, slices.Repeat([]int{api.MaxResidue}, 8))
		r.Allow[p][7] = allow
		l = append(l, load(p))
	}
	return r, l, []int{0, 1, 2, 3, 4, 5, 0, 1, 6, 7}
}

// P1, P5.12: the most plans come to an end, and what is found holds.
func TestMostPlans(t *testing.T) {
	r, l, jobs := most()
	p := plan(r, l, jobs)
	// These are the best ones of the millions of lists.
	if want := (planned{washes: []int{-1, -1, -1, -1, -1, 0, 0, 2, 3, 2}, cost: 643}); !p.same(want) {
		t.Error(p)
	}
	wantNoBreach(t, r, [][]api.TankEvent{l}, jobs, p.sent())
	wantFewest(t, r, l, jobs, p)
	tanks := [][]api.TankEvent{l, l[2:], l[4:]}
	for _, jobs := range [][]int{jobs[4:], {0, 1, 2, 3, 4, 5}, {7, 7, 7, 0, 1, 7}} {
		s := fleet(r, tanks, jobs)
		if s.e == api.OK && verify(r, tanks, jobs, s.steps) != (proof{at: -1, washes: s.count(), cost: s.cost}) {
			t.Error(s)
		}
	}
}

// P5.12, P5.13: no event of a plan has a breach, and no list that Verify accepts is better.
func TestPlanAndVerify(t *testing.T) {
	g := rand.New(rand.NewSource(7))
	accepted := 0
	for range 3000 {
		r := randomRules(g)
		l := randomHistory(g, r, g.Intn(20))
		jobs := randomJobs(g, r, g.Intn(api.MaxWashJobs+1))
		p := mustPlan(t, r, l, jobs).sent()
		one := [][]api.TankEvent{l}
		wantNoBreach(t, r, one, jobs, p)
		if len(jobs) <= api.MaxFleetJobs {
			accepted += wantBest(t, g, r, one, jobs, p)
		}
	}
	if accepted < 2000 {
		t.Error("only", accepted, "lists are accepted")
	}
}

// easier returns rules in which a Power.Low or an Allow is greater, or an Apart is less.
func easier(g *rand.Rand, r api.WashRules) api.WashRules {
	r = cloneRules(r)
	p, c := g.Intn(len(r.Levels)), g.Intn(len(r.Levels))
	switch g.Intn(3) {
	case 0:
		if len(r.Kinds) > 0 {
			power := &r.Kinds[g.Intn(len(r.Kinds))].Power
			power.Low = power.High
		}
	case 1:
		r.Allow[p][c] += 1 + g.Intn(20)
	case 2:
		r.Apart[p][c] = g.Intn(r.Apart[p][c] + 1)
	}
	return r
}

// P5.16: with easier rules there is still a plan, with no more cleanings.
func TestEasierRules(t *testing.T) {
	g := rand.New(rand.NewSource(9))
	fewer := 0
	for range 6000 {
		r := randomRules(g)
		x := easier(g, r)
		l := randomHistory(g, r, g.Intn(10))
		jobs := randomJobs(g, r, g.Intn(api.MaxFleetJobs+1))
		p, q := mustPlan(t, r, l, jobs), mustPlan(t, x, l, jobs)
		if p.e == api.OK && (q.e != api.OK || q.count() > p.count()) {
			t.Fatalf("%v, and %v, %v, %v: %v, and %v", r, x, l, jobs, p, q)
		}
		if p.e == api.OK && q.count() < p.count() {
			fewer++
		}
		tanks := append(randomTanks(g, r, 1), l)
		a, b := fleet(r, tanks, jobs), fleet(x, tanks, jobs)
		if a.e == api.OK && (b.e != api.OK || b.count() > a.count()) {
			t.Fatalf("%v, and %v, %v, %v: %v, and %v", r, x, tanks, jobs, a, b)
		}
	}
	if fewer < 30 {
		t.Error("only", fewer, "with fewer cleanings")
	}
}
