package lock_test

import (
	"math"
	"math/rand"
	"slices"
	"strconv"
	"testing"

	"thalweg/api"
	"thalweg/cases"
	"thalweg/lock"
)

// lockCase is a lock, and whether it is valid.
type lockCase struct {
	name string
	l    api.Lock
	ok   bool
}

// lockCases returns locks that differ from the chapter's one in a single number.
func lockCases() []lockCase {
	var l []lockCase
	number := func(name string, low, high int, set func(x *api.Lock, n int)) {
		for _, c := range cases.Numbers(low, high) {
			x := example
			set(&x, c.N)
			l = append(l, lockCase{name + " " + strconv.Itoa(c.N), x, c.OK})
		}
	}
	number("Length", 1, api.MaxChamber, func(x *api.Lock, n int) { x.Length = n })
	number("Cycle", 1, api.MaxCycle, func(x *api.Lock, n int) { x.Cycle = n })
	number("Turn", 0, api.MaxCycle, func(x *api.Lock, n int) { x.Turn = n })
	number("Fill", 0, api.MaxFill, func(x *api.Lock, n int) { x.Fill = n })
	number("Save", 0, api.MaxSave, func(x *api.Lock, n int) { x.Save = n })
	return append(l, lockCase{"at the high level", high(example), true}, lockCase{"nothing", api.Lock{}, false})
}

// P4.1: each number of a lock has its limits, for all functions with a lock.
func TestCheck(t *testing.T) {
	for _, c := range lockCases() {
		want := cases.Error(c.ok, api.ErrArg)
		wantErrors(t, c.name, args{l: c.l, most: math.MaxInt}, want)
		if e := lock.Check(c.l); e != want {
			t.Errorf("%s: Check: error %d, want %d", c.name, e, want)
		}
	}
}

// P4.2: each number of a tow has its limits, for all functions with tows.
func TestTows(t *testing.T) {
	number := func(name string, low, high int, set func(x *api.LockTow, n int)) {
		for _, c := range cases.Numbers(low, high) {
			for _, up := range []bool{false, true} {
				for _, n := range []int{0, 2} {
					a := goodArgs()
					a.tows[n].Up, a.tows[n].Length, a.tows[1].Up = up, 30, !up
					set(&a.tows[n], c.N)
					a.plan = alone(a.tows)
					wantErrors(t, name+" "+strconv.Itoa(c.N), a, cases.Error(c.OK, api.ErrArg))
				}
			}
		}
	}
	number("Arrive", 0, api.MaxLockMinute, func(x *api.LockTow, n int) { x.Arrive = n })
	number("Length", 1, 300, func(x *api.LockTow, n int) { x.Length = n })
	number("Weight", 0, api.MaxLockWeight, func(x *api.LockTow, n int) { x.Weight = n })
	number("Push", 0, api.MaxPush, func(x *api.LockTow, n int) { x.Push = n })
	short := args{l: api.Lock{Length: 1, Cycle: 1}, most: math.MaxInt, plan: steps("d1")}
	for _, c := range cases.Numbers(1, 3) {
		short.tows = []api.LockTow{goesDown(0, c.N)}
		wantErrors(t, "a short chamber", short, cases.Error(c.OK, api.ErrArg))
	}
}

// alone returns the plan that takes each tow alone, those that go up first.
func alone(tows []api.LockTow) []api.LockStep {
	ups := countUp(tows)
	return append(slices.Repeat(steps("u1"), ups), slices.Repeat(steps("d1"), len(tows)-ups)...)
}

// P4.2: the examples of the chapter, when steps begin and end, what they cost, and how often the chamber moves.
func TestRun(t *testing.T) {
	still := example
	still.Turn = 0
	weights := []api.LockTow{{Up: true, Length: 50, Weight: 0}, {Up: true, Arrive: 3, Length: 50, Weight: 100}}
	for _, c := range []struct {
		name string
		l    api.Lock
		tows []api.LockTow
		plan []api.LockStep
		want ran
	}{
		{"the example 1", example, exampleTows(), steps("u1", "d1", "u1"), ran{runs(0, 20, 20, 40, 40, 60), 140, 3, api.OK}},
		{"the example 1, two together", example, exampleTows(), steps("u2", "d1"), ran{runs(10, 30, 30, 50), 140, 2, api.OK}},
		{"the example 3", example, []api.LockTow{goesDown(0, 250)}, steps("d1"), ran{runs(10, 90), 90, 6, api.OK}},
		{"the example 3, at the high level", high(example), []api.LockTow{goesDown(0, 250)}, steps("d1"), ran{runs(0, 80), 80, 5, api.OK}},
		{"no tows", example, nil, nil, ran{}},
		{"up at the low level", example, []api.LockTow{goesUp(0, 1)}, steps("u1"), ran{runs(0, 20), 20, 1, api.OK}},
		{"up at the high level", high(example), []api.LockTow{goesUp(0, 1)}, steps("u1"), ran{runs(10, 30), 30, 2, api.OK}},
		{"turned before it arrives", high(example), []api.LockTow{goesUp(9, 1)}, steps("u1"), ran{runs(10, 30), 21, 2, api.OK}},
		{"turned when it arrives", high(example), []api.LockTow{goesUp(10, 1)}, steps("u1"), ran{runs(10, 30), 20, 2, api.OK}},
		{"turned long before it arrives", high(example), []api.LockTow{goesUp(500, 1)}, steps("u1"), ran{runs(500, 520), 20, 2, api.OK}},
		{"turned in no time", high(still), []api.LockTow{goesUp(0, 200)}, steps("u1"), ran{runs(0, 40), 40, 4, api.OK}},
		{"two of the same direction", example, []api.LockTow{goesUp(0, 60), goesUp(0, 60)}, steps("u1", "u1"), ran{runs(0, 20, 30, 50), 70, 3, api.OK}},
		{"turned while one is awaited", example, []api.LockTow{goesUp(0, 60), goesUp(25, 60)}, steps("u1", "u1"), ran{runs(0, 20, 30, 50), 45, 3, api.OK}},
		{"one after the other, as they arrive", example, []api.LockTow{goesUp(0, 60), goesUp(35, 60)}, steps("u1", "u1"), ran{runs(0, 20, 35, 55), 40, 3, api.OK}},
		{"the last one decides", example, []api.LockTow{goesUp(35, 40), goesUp(5, 40)}, steps("u2"), ran{runs(35, 55), 70, 1, api.OK}},
		{"as long as the chamber", example, []api.LockTow{goesUp(0, 60), goesUp(0, 40)}, steps("u2"), ran{runs(0, 20), 40, 1, api.OK}},
		{"longer than the chamber", example, []api.LockTow{goesUp(0, 60), goesUp(0, 41)}, steps("u2"), ran{e: api.ErrFull}},
		{"one part", example, []api.LockTow{goesUp(0, 100)}, steps("u1"), ran{runs(0, 20), 20, 1, api.OK}},
		{"two parts", example, []api.LockTow{goesUp(0, 101)}, steps("u1"), ran{runs(0, 50), 50, 3, api.OK}},
		{"still two parts", example, []api.LockTow{goesUp(0, 200)}, steps("u1"), ran{runs(0, 50), 50, 3, api.OK}},
		{"three parts", example, []api.LockTow{goesUp(7, 300)}, steps("u1"), ran{runs(7, 87), 80, 5, api.OK}},
		{"parts, then the other direction", example, []api.LockTow{goesUp(0, 101), goesDown(0, 1)}, steps("u1", "d1"), ran{runs(0, 50, 50, 70), 120, 4, api.OK}},
		{"weights", example, weights, steps("u2"), ran{runs(3, 23), 2000, 1, api.OK}},
		{"no weight", example, weights[:1], steps("u1"), ran{runs(0, 20), 0, 1, api.OK}},
		// The tow 1 is the first one: it arrives first; of the tows 0 and 2 the one with the smaller number is the first one.
		{"by their arrival", example, []api.LockTow{{Up: true, Arrive: 8, Length: 1, Weight: 1}, {Up: true, Arrive: 7, Length: 1, Weight: 10}, {Up: true, Arrive: 8, Length: 1, Weight: 100}}, steps("u1", "u1", "u1"), ran{runs(7, 27, 37, 57, 67, 87), 200 + 49 + 7900, 5, api.OK}},
	} {
		if got := run(c.l, c.tows, c.plan); !got.same(c.want) {
			t.Errorf("%s: %v, want %v", c.name, got, c.want)
		}
	}
}

// P4.2, P4.3: the greatest numbers.
func TestGreatestRun(t *testing.T) {
	l := api.Lock{Length: api.MaxChamber, Cycle: api.MaxCycle, Turn: api.MaxCycle, Fill: api.MaxFill, Save: api.MaxSave}
	tow := api.LockTow{Arrive: api.MaxLockMinute, Length: 1500, Weight: api.MaxLockWeight, Push: api.MaxPush}
	tows, plan := slices.Repeat([]api.LockTow{tow}, api.MaxLockTows), slices.Repeat(steps("d1"), api.MaxLockTows)
	want := ran{moves: 8 * 6}
	for i := range api.MaxLockTows {
		// The first turn is over long before they arrive.
		start := api.MaxLockMinute + 3000*i
		want.runs = append(want.runs, api.LockRun{Start: start, End: start + 2500})
		want.cost += 100 * (3000*i + 2500)
	}
	if got := run(l, tows, plan); !got.same(want) {
		t.Errorf("%v, want %v", got, want)
	}
	// 24 fillings, of which all but the first one take a tenth from the upper reach; 24 emptyings.
	w := api.LockWater{Upper: -1000000 - 23*100000 + 800000, Lower: 24*100000 - 800000, Basin: 900000}
	if got := mustWater(t, l, tows, plan); got != w {
		t.Errorf("%v, want %v", got, w)
	}
}

// P4.2: which plans are complete; no numbers of tows are too great to be counted.
func TestIncompletePlans(t *testing.T) {
	two := []api.LockTow{goesUp(0, 60), goesUp(0, 60), goesDown(0, 1)}
	step := func(up bool, n int) api.LockStep { return api.LockStep{Up: up, Tows: n} }
	for _, c := range []struct {
		name string
		tows []api.LockTow
		plan []api.LockStep
		e    api.Errno
	}{
		{"complete", two, steps("u1", "u1", "d1"), api.OK}, {"in another order", two, steps("u1", "d1", "u1"), api.OK},
		{"not all", two, steps("u1", "u1"), api.ErrForm}, {"not all, the other way", two, steps("d1", "u1"), api.ErrForm}, {"nothing", two, nil, api.ErrForm},
		{"too many up", two, steps("u1", "u1", "u1", "d1"), api.ErrForm}, {"too many down", two, steps("u1", "u1", "d2"), api.ErrForm}, {"too many in one step", two, steps("u3", "d1"), api.ErrForm}, {"one down instead of one up", two, steps("u1", "d1", "d1"), api.ErrForm},
		{"a step with nothing at first", two, steps("u0", "u1", "u1", "d1"), api.ErrForm}, {"a step with nothing at last", two, steps("u1", "u1", "d1", "d0"), api.ErrForm}, {"a step with less than nothing", two, steps("u1", "u2", "u-1", "d1"), api.ErrForm},
		{"nothing of nothing", nil, nil, api.OK}, {"a step without tows", nil, steps("u0"), api.ErrForm}, {"a step with a tow too many", nil, steps("d1"), api.ErrForm},
		{"great numbers", two, []api.LockStep{step(true, math.MaxInt), step(true, math.MaxInt), step(true, 4), step(false, 1)}, api.ErrForm}, {"great numbers whose sum overflows", two, []api.LockStep{step(true, 1), step(true, math.MaxInt), step(true, math.MaxInt), step(true, 3), step(false, 1)}, api.ErrForm}, {"great numbers below 0", two, []api.LockStep{step(true, math.MinInt), step(true, math.MinInt), step(true, 2), step(false, 1)}, api.ErrForm}, {"a great number at last", two, []api.LockStep{step(true, 2), step(false, 1), step(true, math.MaxInt)}, api.ErrForm},
		{"too long together, and not complete", two, steps("u2"), api.ErrForm}, {"too long together", two, steps("u2", "d1"), api.ErrFull}, {"too long together, then", two, steps("d1", "u2"), api.ErrFull},
		{"too long alone, but in parts", []api.LockTow{goesUp(0, 101)}, steps("u1"), api.OK}, {"too long together with another one", []api.LockTow{goesUp(0, 101), goesUp(0, 1)}, steps("u2"), api.ErrFull},
	} {
		r := run(example, c.tows, c.plan)
		w, e := lock.Water(example, c.tows, c.plan)
		if r.e != c.e || e != c.e || c.e != api.OK && (!r.same(ran{e: c.e}) || w != (api.LockWater{})) {
			t.Errorf("%s: %v, %v, error %d, want error %d", c.name, r, w, e, c.e)
		}
	}
}

// P4.3: the example of the chapter, and where the water comes from and goes.
func TestWater(t *testing.T) {
	odd := api.Lock{Length: 100, Cycle: 20, Fill: 9, Save: 50}
	push := []api.LockTow{{Up: true, Length: 300, Push: 70}, {Length: 300, Push: 20}}
	dry := example
	dry.Fill = 0
	waste := example
	waste.Save = 0
	for _, c := range []struct {
		name string
		l    api.Lock
		tows []api.LockTow
		plan []api.LockStep
		want api.LockWater
	}{
		{"the example 2", example, exampleTows(), steps("u1", "d1", "u1"), api.LockWater{Upper: -1800, Lower: 800, Chamber: 1000}},
		{"the example 2, two together", example, exampleTows(), steps("u2", "d1"), api.LockWater{Upper: -1200, Lower: 800, Basin: 400}},
		{"no tows", example, nil, nil, api.LockWater{}},
		{"filled", example, []api.LockTow{goesUp(0, 1)}, steps("u1"), api.LockWater{Upper: -1000, Chamber: 1000}},
		{"emptied", high(example), []api.LockTow{goesDown(0, 1)}, steps("d1"), api.LockWater{Lower: 600, Chamber: -1000, Basin: 400}},
		{"emptied by a turn", high(example), []api.LockTow{goesUp(0, 1)}, steps("u1"), api.LockWater{Upper: -600, Lower: 600}},
		{"filled by a turn", example, []api.LockTow{goesDown(0, 1)}, steps("d1"), api.LockWater{Upper: -1000, Lower: 600, Basin: 400}},
		{"saved water, rounded down", high(odd), []api.LockTow{goesDown(0, 1)}, steps("d1"), api.LockWater{Lower: 5, Chamber: -9, Basin: 4}},
		{"saved water, rounded down each time", odd, []api.LockTow{goesUp(0, 300)}, steps("u1"), api.LockWater{Upper: -9 - 5 - 5, Lower: 10, Chamber: 9}},
		{"nothing saved", waste, []api.LockTow{goesUp(0, 300)}, steps("u1"), api.LockWater{Upper: -3000, Lower: 2000, Chamber: 1000}},
		{"no water", dry, push, steps("u1", "d1"), api.LockWater{Upper: -50, Lower: 50}},
		{"what is displaced, once for all parts", example, push[:1], steps("u1"), api.LockWater{Upper: -1000 - 600 - 600 - 70, Lower: 1200 + 70, Chamber: 1000}},
		{"displaced by one that goes down", high(example), push[1:], steps("d1"), api.LockWater{Upper: -600 - 600 + 20, Lower: 1800 - 20, Chamber: -1000, Basin: 400}},
	} {
		if got := mustWater(t, c.l, c.tows, c.plan); got != c.want {
			t.Errorf("%s: %v, want %v", c.name, got, c.want)
		}
	}
}

// P4.2, P4.3: plans, minute by minute, and cubic meter by cubic meter.
func TestRunByMinutes(t *testing.T) {
	g := rand.New(rand.NewSource(1))
	seen := map[api.Errno]int{}
	for range 5000 {
		l := randomLock(g)
		tows := randomTows(g, l, g.Intn(api.MaxLockTows+1))
		plan := randomPlan(g, tows)
		want, water := tell(l, tows, plan)
		seen[want.e]++
		if got := run(l, tows, plan); !got.same(want) {
			t.Fatalf("%v, %v, %v: %v, want %v", l, tows, plan, got, want)
		}
		if got, e := lock.Water(l, tows, plan); got != water || e != want.e {
			t.Fatalf("%v, %v, %v: %v, error %d, want %v, error %d", l, tows, plan, got, e, water, want.e)
		}
	}
	if seen[api.OK] < 1000 || seen[api.ErrForm] < 100 || seen[api.ErrFull] < 100 {
		t.Error("errors:", seen)
	}
}

// P4.9: no water is lost; the chamber has what its levels say, and the basins what they can have.
func TestNoWaterIsLost(t *testing.T) {
	g := rand.New(rand.NewSource(2))
	seen := map[int]bool{}
	for range 3000 {
		l := randomLock(g)
		tows := randomTows(g, l, g.Intn(api.MaxLockTows+1))
		plan := alone(tows)
		g.Shuffle(len(plan), func(i, j int) { plan[i], plan[j] = plan[j], plan[i] })
		w := mustWater(t, l, tows, plan)
		if w.Upper+w.Lower+w.Chamber+w.Basin != 0 {
			t.Fatalf("%v, %v, %v: %v", l, tows, plan, w)
		}
		last, change := l.High, 0
		if len(plan) > 0 {
			last = plan[len(plan)-1].Up
		}
		switch {
		case last && !l.High:
			change = 1
		case !last && l.High:
			change = -1
		}
		seen[change] = true
		if w.Chamber != change*l.Fill || w.Basin < 0 || w.Basin > l.Fill*l.Save/100 {
			t.Fatalf("%v, %v, %v: %v, want %d in the chamber", l, tows, plan, w, change*l.Fill)
		}
	}
	if len(seen) != 3 {
		t.Error("levels:", seen)
	}
}

// P4.10: steps do not overlap, each tow needs at least a lockage, and the tows of a direction leave in their order.
func TestStepsFollow(t *testing.T) {
	g := rand.New(rand.NewSource(3))
	for range 2000 {
		l := randomLock(g)
		tows := randomTows(g, l, 1+g.Intn(api.MaxLockTows))
		plan := randomPlan(g, tows)
		r := run(l, tows, plan)
		if r.e != api.OK {
			continue
		}
		groups, _ := groupsOf(tows, plan)
		before, left := 0, map[bool]int{}
		for i, x := range r.runs {
			if x.Start < before || x.End < x.Start+l.Cycle || x.End <= left[plan[i].Up] {
				t.Fatalf("%v, %v, %v: %v", l, tows, plan, r.runs)
			}
			before, left[plan[i].Up] = x.End, x.End
			for _, n := range groups[i] {
				if x.Start < tows[n].Arrive || x.End-tows[n].Arrive < l.Cycle {
					t.Fatalf("%v, %v, %v: %v, the tow %d", l, tows, plan, r.runs, n)
				}
			}
		}
	}
}
