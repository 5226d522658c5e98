package lock_test

import (
	"math"
	"math/rand"
	"slices"
	"testing"

	"thalweg/api"
)

// together returns so many tows of each direction that weigh nothing, so that all plans cost nothing; all of them fit into the chamber together.
func together(downs, ups int) []api.LockTow {
	down, up := api.LockTow{Length: 1}, api.LockTow{Up: true, Length: 1}
	return append(slices.Repeat([]api.LockTow{down}, downs), slices.Repeat([]api.LockTow{up}, ups)...)
}

// P4.4: the example of the chapter, and which of several plans is chosen.
func TestBest(t *testing.T) {
	heavy := exampleTows()
	heavy[1].Weight = 3
	still := example
	still.Turn = 0
	for _, c := range []struct {
		name string
		l    api.Lock
		tows []api.LockTow
		want choice
	}{
		{"the example 1: as cheap, with fewer movements", example, exampleTows(), choice{plan: steps("u2", "d1"), cost: 140}},
		{"a heavier tow comes first", example, heavy, choice{plan: steps("d1", "u2"), cost: 165}},
		{"no tows", example, nil, choice{}},
		{"one tow in parts", example, []api.LockTow{goesDown(0, 250)}, choice{plan: steps("d1"), cost: 90}},
		{"two that fit", example, []api.LockTow{goesUp(0, 60), goesUp(0, 40)}, choice{plan: steps("u2"), cost: 40}},
		{"two that do not fit", example, []api.LockTow{goesUp(0, 60), goesUp(0, 41)}, choice{plan: steps("u1", "u1"), cost: 70}},
		{"a late one is not awaited", example, []api.LockTow{goesUp(0, 60), goesUp(1000, 40)}, choice{plan: steps("u1", "u1"), cost: 40}},
		{"nothing weighs: few movements, at the low level", example, together(3, 3), choice{plan: steps("u3", "d3")}},
		{"nothing weighs: few movements, at the high level", high(example), together(3, 3), choice{plan: steps("d3", "u3")}},
		{"a late one, as cheap: the first step has fewer tows", example, []api.LockTow{goesUp(0, 60), {Up: true, Arrive: 30, Length: 41}, {Up: true, Arrive: 30, Length: 20}}, choice{plan: steps("u1", "u2"), cost: 20}},
		// u1, u2 and u2, u1 move the chamber three times, both at no cost.
		{"several lists: fewer tows at first", example, []api.LockTow{{Up: true, Length: 50}, {Up: true, Length: 50}, {Up: true, Length: 50}}, choice{plan: steps("u1", "u2")}},
		// d1, u2, d1 and u2, d1, d1 and u1, d1, u1, d1 move the chamber four times, and so do others.
		{"several lists: down before up", example, []api.LockTow{{Up: true, Length: 50}, {Up: true, Length: 50}, {Length: 51}, {Length: 51}}, choice{plan: steps("d1", "u2", "d1")}},
		{"several lists, at the high level", high(example), []api.LockTow{{Up: true, Length: 51}, {Up: true, Length: 51}, {Length: 51}, {Length: 51}}, choice{plan: steps("d1", "u1", "d1", "u1")}},
		{"turned in no time", still, []api.LockTow{goesUp(0, 60), goesDown(0, 60), goesUp(0, 60)}, choice{plan: steps("u1", "d1", "u1"), cost: 120}},
		{"a tow in parts is alone", example, []api.LockTow{{Up: true, Length: 101}, {Up: true, Length: 1}}, choice{plan: steps("u1", "u1")}},
	} {
		if got := best(c.l, c.tows); !got.same(c.want) {
			t.Errorf("%s: %v, want %v", c.name, got, c.want)
		}
	}
}

// P4.5: the example of the chapter, and which of several plans is chosen.
func TestThrift(t *testing.T) {
	dry := example
	dry.Fill = 0
	// Alone they cost 20 + 50 and fill the chamber twice; together 520 + 20, and once.
	late := []api.LockTow{goesUp(0, 60), goesUp(500, 40)}
	for _, c := range []struct {
		name string
		l    api.Lock
		tows []api.LockTow
		most int
		want choice
	}{
		{"the example 4", example, exampleTows(), 140, choice{plan: steps("u2", "d1"), cost: 140}},
		{"no cost is too high", example, exampleTows(), math.MaxInt, choice{plan: steps("u2", "d1"), cost: 140}},
		{"too cheap", example, exampleTows(), 139, choice{e: api.ErrNone}},
		{"below 0", example, exampleTows(), math.MinInt, choice{e: api.ErrNone}},
		{"no tows", example, nil, 0, choice{}}, {"no tows, and less than nothing", example, nil, -1, choice{e: api.ErrNone}},
		{"water is saved", example, late, 540, choice{plan: steps("u2"), cost: 540}},
		{"water cannot be saved", example, late, 539, choice{plan: steps("u1", "u1"), cost: 40}},
		{"just one plan is cheap enough", example, late, 40, choice{plan: steps("u1", "u1"), cost: 40}}, {"none is", example, late, 39, choice{e: api.ErrNone}},
		{"no water: the least cost", dry, late, math.MaxInt, choice{plan: steps("u1", "u1"), cost: 40}},
		{"nothing weighs: the fewest movements", dry, together(3, 3), 0, choice{plan: steps("u3", "d3")}},
		{"nothing weighs: the smallest list", dry, []api.LockTow{{Up: true, Length: 50}, {Up: true, Length: 50}, {Up: true, Length: 50}}, 0, choice{plan: steps("u1", "u2")}},
		// The chamber is filled once with both plans, and emptied once more with the second one.
		{"the fewest movements, at the high level", high(example), []api.LockTow{goesDown(0, 60), {Arrive: 900, Length: 40}}, math.MaxInt, choice{plan: steps("d2"), cost: 920}},
	} {
		if got := thrift(c.l, c.tows, c.most); !got.same(c.want) {
			t.Errorf("%s: %v, want %v", c.name, got, c.want)
		}
	}
}

// P4.5: what tows displace is as much with all plans, also if it is more than a filling.
func TestThriftDisplaces(t *testing.T) {
	tows := []api.LockTow{{Up: true, Length: 60, Weight: 1, Push: api.MaxPush}, {Length: 60, Weight: 1}, {Up: true, Arrive: 500, Length: 40, Weight: 1}, {Arrive: 600, Length: 40, Weight: 1, Push: api.MaxPush}}
	for _, l := range []api.Lock{example, high(example)} {
		for most := 0; most < 2500; most += 20 {
			if got, want := thrift(l, tows, most), thriftOf(l, tows, most); !got.same(want) {
				t.Errorf("%v, at most %d: %v, want %v", l, most, got, want)
			}
		}
	}
}

// P4.4, P4.8: of all plans, the one with the least cost, the fewest movements, and the smallest list.
func TestBestOfAll(t *testing.T) {
	g := rand.New(rand.NewSource(5))
	for range 1500 {
		l := randomLock(g)
		tows := randomTows(g, l, g.Intn(6))
		if g.Intn(3) == 0 {
			for i := range tows {
				tows[i].Weight = 0
			}
		}
		if got, want := best(l, tows), bestOf(l, tows); !got.same(want) {
			t.Fatalf("%v, %v: %v, want %v", l, tows, got, want)
		}
	}
}

// P4.5, P4.8: of all plans that are cheap enough, the one with the least water, the least cost, the fewest movements, and the smallest list.
func TestThriftOfAll(t *testing.T) {
	g := rand.New(rand.NewSource(6))
	dear, none := 0, 0
	for range 1500 {
		l := randomLock(g)
		tows := randomTows(g, l, g.Intn(6))
		least := best(l, tows).cost
		most := least + g.Intn(300) - 30
		got, want := thrift(l, tows, most), thriftOf(l, tows, most)
		if !got.same(want) {
			t.Fatalf("%v, %v, at most %d: %v, want %v", l, tows, most, got, want)
		}
		switch {
		case got.e == api.ErrNone:
			none++
		case got.cost > least:
			dear++
		}
	}
	if dear < 100 || none < 50 {
		t.Error("only", dear, "that are dearer and save water, and", none, "that are too dear")
	}
}

// P4.8: what the plans of Best and Thrift cost is what Run says; Thrift costs at least as much as Best, also just as much, and takes no more water.
func TestThriftAndBest(t *testing.T) {
	g := rand.New(rand.NewSource(7))
	for range 1000 {
		l := randomLock(g)
		tows := randomTows(g, l, g.Intn(api.MaxLockTows+1))
		b := best(l, tows)
		same, free := thrift(l, tows, b.cost), thrift(l, tows, math.MaxInt)
		for _, x := range []choice{b, same, free} {
			if r := mustRun(t, l, tows, x.plan); r.cost != x.cost || x.cost < b.cost {
				t.Fatalf("%v, %v: %v costs %d", l, tows, x, r.cost)
			}
		}
		if same.cost != b.cost {
			t.Fatalf("%v, %v: %v, and with its cost %v", l, tows, b, same)
		}
		least, more, most := mustWater(t, l, tows, free.plan).Upper, mustWater(t, l, tows, same.plan).Upper, mustWater(t, l, tows, b.plan).Upper
		if least < more || more < most {
			t.Fatalf("%v, %v: %d, %d, %d", l, tows, least, more, most)
		}
		if x := thrift(l, tows, b.cost-1); x.e != api.ErrNone {
			t.Fatalf("%v, %v: %v is cheaper than %v", l, tows, x, b)
		}
	}
}

// P4.11: a longer chamber, a shorter Cycle, a shorter Turn and, if Turn is at most Cycle, a tow less cost no more.
func TestBetterLocks(t *testing.T) {
	g := rand.New(rand.NewSource(8))
	cheaper := make([]int, 4)
	for range 2000 {
		l := randomLock(g)
		tows := randomTows(g, l, 1+g.Intn(6))
		longer, faster, turned, fewer := l, l, l, l
		longer.Length += g.Intn(100)
		faster.Cycle -= g.Intn(l.Cycle)
		turned.Turn -= g.Intn(l.Turn + 1)
		fewer.Turn = min(l.Turn, l.Cycle)
		n := g.Intn(len(tows))
		less := slices.Delete(slices.Clone(tows), n, n+1)
		cost := best(l, tows).cost
		for i, c := range []struct{ got, most int }{{best(longer, tows).cost, cost}, {best(faster, tows).cost, cost}, {best(turned, tows).cost, cost}, {best(fewer, less).cost, best(fewer, tows).cost}} {
			if c.got > c.most {
				t.Fatalf("%v, %v: the case %d costs %d, and %d before", l, tows, i, c.got, c.most)
			}
			if c.got < c.most {
				cheaper[i]++
			}
		}
	}
	if slices.Min(cheaper) < 100 {
		t.Error("cheaper:", cheaper)
	}
}

// P1: the most tows, with the most plans, come to an end.
func TestMostPlans(t *testing.T) {
	for ups := range api.MaxLockTows + 1 {
		tows := together(api.MaxLockTows-ups, ups)
		for i := range tows {
			tows[i].Weight, tows[i].Arrive = 1, 7*i
		}
		for _, l := range []api.Lock{example, high(example)} {
			want := bestOf(l, tows)
			if got := best(l, tows); !got.same(want) {
				t.Errorf("%d up: %v, want %v", ups, got, want)
			}
			if got := thrift(l, tows, want.cost-1); !got.same(choice{e: api.ErrNone}) {
				t.Errorf("%d up: %v", ups, got)
			}
			if got, want := thrift(l, tows, 2*want.cost), thriftOf(l, tows, 2*want.cost); !got.same(want) {
				t.Errorf("%d up: %v, want %v", ups, got, want)
			}
		}
	}
}
