package hull_test

import (
	"math/rand"
	"slices"
	"testing"

	"thalweg/api"
	"thalweg/hull"
)

// advice returns the advice for a load.
func advice(cause api.HullCause, pass, hour int, load ...int) api.HullAdvice {
	return api.HullAdvice{Load: load, Lots: sum(load), Cause: cause, Pass: pass, Hour: hour}
}

// P2.5: the example 3 of the chapter, with more or less water under the keel, and another way.
func TestAdvise(t *testing.T) {
	late := passage()
	late.Way = []api.Pass{pass(130, 3, 3), pass(120, 1, 3), pass(120, 3, 3)}
	for _, c := range []struct {
		name string
		keel int
		p    api.Passage
		want api.HullAdvice
		e    api.Errno
	}{
		{"the example", 20, passage(), advice(api.HullRiver, 0, 0, 0, 1), api.OK},
		{"the most water under it", 22, passage(), advice(api.HullRiver, 0, 0, 0, 1), api.OK}, {"too much for a lot", 23, passage(), advice(api.HullRiver, 0, 0, 0, 0), api.OK}, {"just empty", 46, passage(), advice(api.HullRiver, 0, 0, 0, 0), api.OK}, {"not even empty", 47, passage(), api.HullAdvice{}, api.ErrState},
		{"two lots", 13, passage(), advice(api.HullRiver, 0, 0, 1, 1), api.OK}, {"not quite two lots", 14, passage(), advice(api.HullRiver, 0, 0, 0, 1), api.OK},
		{"no keel", 0, passage(), advice(api.HullRiver, 0, 0, 1, 1), api.OK},
		{"another pass and hour", 6, late, advice(api.HullRiver, 1, 3, 1, 2), api.OK},
	} {
		c.p.Keel = c.keel
		if a, e := hull.Advise(example(), water, c.p); !sameAdvice(a, c.want) || e != c.e {
			t.Errorf("%s: %v, error %d, want %v, error %d", c.name, a, e, c.want, c.e)
		}
	}
}

// box returns a hull of a section of 20 meters which lies a centimeter deeper with each lot, up to a limit, and which 40 half meters of a lot make a centimeter deeper at one end.
func box(limit int, holds ...api.HullHold) api.Hull {
	return api.Hull{Lot: 10, Sections: []api.HullSection{{Length: 20, Trim: 100, Curve: rows(0, 0, limit, 10*limit), Holds: holds}}}
}

// P2.5: why there are not more lots.
func TestAdviseCauses(t *testing.T) {
	fore, middle, aft := hold(0, 3), hold(10, 3), hold(20, 3)
	deep, shallow := canal(to(1000, 1000)), canal(to(2, 9))
	deep.Way, deep.Sides[0] = []api.Pass{pass(0, 1, 1)}, hours(1000, 1000)
	shallow.Way, shallow.Sides[0] = []api.Pass{pass(0, 0, 1), pass(0, 1, 1)}, []api.Bounds{to(5, 9), to(2, 9)}
	for _, c := range []struct {
		name string
		h    api.Hull
		p    api.Passage
		want api.HullAdvice
	}{
		{"full", box(100, middle), deep, advice(api.HullFull, 0, 0, 3)}, {"all full", box(100, fore, middle, aft), deep, advice(api.HullFull, 0, 0, 3, 3, 3)}, {"no room", box(100, hold(0, 0)), deep, advice(api.HullFull, 0, 0, 0)}, {"no holds", box(100), deep, advice(api.HullFull, 0, 0)}, {"full, and no deeper than it may be", box(3, middle), deep, advice(api.HullFull, 0, 0, 3)},
		{"full, and as deep as the river", box(100, hold(10, 2)), shallow, advice(api.HullFull, 0, 0, 2)},
		{"the river", box(100, middle), shallow, advice(api.HullRiver, 0, 1, 2)}, {"the river, and as deep as it may be with one lot more", box(3, middle), shallow, advice(api.HullRiver, 0, 1, 2)},
		{"the hull", box(2, middle), deep, advice(api.HullSinks, 0, 0, 2)}, {"the hull, and as deep as the river", box(2, middle), shallow, advice(api.HullSinks, 0, 0, 2)}, {"the hull, empty", box(1, fore), deep, advice(api.HullSinks, 0, 0, 0)},
		{"the river, with one lot more at both ends", box(4, hold(0, 2), hold(20, 2)), canal(to(3, 3)), advice(api.HullRiver, 0, 0, 1, 1)},
		{"the hull at its end", box(3, hold(20, 3)), deep, advice(api.HullSinks, 0, 0, 2)}, {"the hull at its end, and as deep as the river", box(4, hold(20, 3)), canal(to(3, 3)), advice(api.HullSinks, 0, 0, 2)}, {"the river at the end of the hull", box(5, hold(20, 3)), canal(to(3, 3)), advice(api.HullRiver, 0, 0, 2)},
		// With one lot more the hull floats only if there is none in the middle.
		{"the river, with other lots", box(2, hold(0, 1), hold(10, 1), hold(20, 1)), canal(to(1, 1)), advice(api.HullRiver, 0, 0, 0, 1, 0)},
	} {
		if a, e := hull.Advise(c.h, water, c.p); !sameAdvice(a, c.want) || e != api.OK {
			t.Errorf("%s: %v, error %d, want %v", c.name, a, e, c.want)
		}
	}
}

// P2.5: more lots are better than a smaller moment, this is better than a smaller list, whatever its sign is.
func TestAdviseWhich(t *testing.T) {
	for _, c := range []struct {
		name  string
		depth int
		holds []api.HullHold
		load  []int
	}{
		{"the smaller list", 1, []api.HullHold{hold(10, 3), hold(10, 3)}, []int{0, 1}}, {"the smaller list", 3, []api.HullHold{hold(10, 2), hold(10, 2)}, []int{1, 2}}, {"the smaller list", 4, []api.HullHold{hold(10, 2), hold(10, 2), hold(10, 2)}, []int{0, 2, 2}}, {"the smaller list", 3, []api.HullHold{hold(10, 1), hold(10, 1), hold(10, 1), hold(10, 1)}, []int{0, 1, 1, 1}},
		{"the smaller moment", 2, []api.HullHold{hold(10, 2), hold(9, 2)}, []int{2, 0}}, {"the smaller moment before the middle", 2, []api.HullHold{hold(10, 1), hold(8, 2), hold(13, 2)}, []int{1, 0, 0}}, {"the smaller moment after the middle", 2, []api.HullHold{hold(7, 2), hold(12, 2)}, []int{0, 1}}, {"the smaller moment before the middle", 2, []api.HullHold{hold(13, 2), hold(8, 2)}, []int{0, 1}},
		{"the smaller moment at the same draft", 2, []api.HullHold{hold(8, 2), hold(13, 2)}, []int{1, 0}}, {"the smaller moment at the same draft", 2, []api.HullHold{hold(12, 2), hold(7, 2)}, []int{1, 0}},
		{"no moment", 4, []api.HullHold{hold(0, 4), hold(10, 1), hold(20, 4)}, []int{2, 0, 2}}, {"more lots", 4, []api.HullHold{hold(10, 3), hold(8, 2)}, []int{3, 0}}, {"more lots with a moment", 5, []api.HullHold{hold(10, 3), hold(8, 2)}, []int{3, 1}},
		{"a moment of 4 holds", 3, []api.HullHold{hold(0, 3), hold(6, 3), hold(14, 3), hold(20, 3)}, []int{0, 1, 1, 0}},
	} {
		a, e := hull.Advise(box(100, c.holds...), water, canal(to(c.depth, c.depth)))
		if want := advice(api.HullRiver, 0, 0, c.load...); !sameAdvice(a, want) || e != api.OK {
			t.Errorf("%s: %v, error %d, want %v", c.name, a, e, want)
		}
	}
}

// P2.5: the sign of the moment does not matter.
func TestAdviseBothEnds(t *testing.T) {
	for _, c := range []struct {
		name  string
		holds []api.HullHold
		depth int
		want  api.HullAdvice
	}{
		{"the fore end first", []api.HullHold{hold(5, 2), hold(15, 2)}, 3, advice(api.HullRiver, 0, 0, 0, 1)}, {"the aft end first", []api.HullHold{hold(15, 2), hold(5, 2)}, 3, advice(api.HullRiver, 0, 0, 0, 1)},
		{"three lots, the fore end first", []api.HullHold{hold(5, 2), hold(15, 2)}, 7, advice(api.HullRiver, 0, 0, 1, 2)}, {"three lots, the aft end first", []api.HullHold{hold(15, 2), hold(5, 2)}, 7, advice(api.HullRiver, 0, 0, 1, 2)},
		{"level", []api.HullHold{hold(5, 2), hold(15, 2)}, 4, advice(api.HullRiver, 0, 0, 1, 1)}, {"full", []api.HullHold{hold(5, 2), hold(15, 2)}, 8, advice(api.HullFull, 0, 0, 2, 2)},
	} {
		h := box(100, c.holds...)
		h.Lot = 20 // A lot is 2 centimeters, and another one at one end.
		if a, e := hull.Advise(h, water, canal(to(c.depth, c.depth))); !sameAdvice(a, c.want) || e != api.OK {
			t.Errorf("%s: %v, error %d, want %v", c.name, a, e, c.want)
		}
	}
}

// heavyEnd returns a hull whose fore end is heavy, with a hold at its aft end.
func heavyEnd(lot, trim int) api.Hull {
	return api.Hull{Lot: lot, Sections: []api.HullSection{
		{Length: 20, Light: 30, Trim: 1, Curve: rows(0, 0, 200, 200)},
		{Length: 20, Trim: trim - 1, Curve: rows(0, 0, 100, 1000), Holds: []api.HullHold{hold(20, 3)}},
	}}
}

// P2.5: a hull that is heavy at one end can be safe with some lots, but not with fewer ones.
func TestAdviseHeavyEnd(t *testing.T) {
	// The moment is 30 * -20 without a load, and that of a lot 40 for each ton. With 0 to 3 lots of 10 tons, of which 404 ton-half-meters make a centimeter, the deep draft is 5, 5, 6 and 8; with 0 to 2 lots of 15 tons, of which 8 make a centimeter, it is 78, 5 and 81.
	stiff, level := heavyEnd(10, 101), heavyEnd(15, 2)
	for _, c := range []struct {
		h     api.Hull
		depth int
		want  api.HullAdvice
		e     api.Errno
	}{
		{stiff, 4, api.HullAdvice{}, api.ErrState}, {stiff, 5, advice(api.HullRiver, 0, 0, 1), api.OK}, {stiff, 6, advice(api.HullRiver, 0, 0, 2), api.OK}, {stiff, 7, advice(api.HullRiver, 0, 0, 2), api.OK}, {stiff, 8, advice(api.HullFull, 0, 0, 3), api.OK},
		{level, 4, api.HullAdvice{}, api.ErrState}, {level, 5, advice(api.HullRiver, 0, 0, 1), api.OK}, {level, 80, advice(api.HullRiver, 0, 0, 1), api.OK}, {level, 81, advice(api.HullSinks, 0, 0, 2), api.OK},
	} {
		if a, e := hull.Advise(c.h, water, canal(to(c.depth, c.depth))); !sameAdvice(a, c.want) || e != c.e {
			t.Errorf("lots of %d tons, depth %d: %v, error %d, want %v, error %d", c.h.Lot, c.depth, a, e, c.want, c.e)
		}
	}
}

// P2.5: a density within bounds, and one that is known.
func TestAdviseByDensity(t *testing.T) {
	for _, c := range []struct {
		density api.Bounds
		lots    int
	}{{to(1000, 1000), 9}, {to(1000, 1100), 9}, {to(900, 1000), 8}, {to(900, 1100), 8}, {to(1100, 1100), 9}, {to(900, 900), 8}} {
		h := box(100, hold(10, 20))
		if a, e := hull.Advise(h, c.density, canal(to(9, 9))); !sameAdvice(a, advice(api.HullRiver, 0, 0, c.lots)) || e != api.OK {
			t.Errorf("density %v: %v, error %d, want %d lots", c.density, a, e, c.lots)
		}
	}
}

// allLoads returns all loads of a hull, from the smallest list on.
func allLoads(h api.Hull) [][]int {
	holds, _ := holdsOf(h)
	all := [][]int{nil}
	for _, x := range holds {
		var next [][]int
		for _, load := range all {
			for lots := range x.Lots + 1 {
				next = append(next, append(slices.Clone(load), lots))
			}
		}
		all = next
	}
	return all
}

// bestOf returns what Advise returns, by Float and Safe for each load.
func bestOf(t *testing.T, h api.Hull, density api.Bounds, p api.Passage) (api.HullAdvice, api.Errno) {
	best, room, least := api.HullAdvice{Lots: -1}, 0, 0
	floats := map[int]bool{} // whether the hull floats with some load of so many lots
	for _, load := range allLoads(h) {
		lots, moment := sum(load), momentOf(h, load)
		room = max(room, lots)
		if _, e := hull.Float(h, load, density); e != api.OK {
			continue
		}
		floats[lots] = true
		got := mustSafe(t, h, load, density, p)
		better := lots > best.Lots || lots == best.Lots && max(moment, -moment) < least
		if got.surely && better {
			best, least = advice(api.HullRiver, got.pass, got.hour, load...), max(moment, -moment)
		}
	}
	if best.Lots < 0 {
		return api.HullAdvice{}, api.ErrState
	}
	if best.Lots == room {
		return advice(api.HullFull, 0, 0, best.Load...), api.OK
	}
	if !floats[best.Lots+1] {
		return advice(api.HullSinks, 0, 0, best.Load...), api.OK
	}
	return best, api.OK
}

// P2.5, P2.11: Advise by Float and Safe for each load.
func TestAdviseBySafe(t *testing.T) {
	g := rand.New(rand.NewSource(5))
	causes := map[api.HullCause]int{}
	none := 0
	for range 1500 {
		h, p, density := randomHull(g), randomPassage(g), randomDensity(g)
		want, err := bestOf(t, h, density, p)
		if a, e := hull.Advise(h, density, p); !sameAdvice(a, want) || e != err {
			t.Fatalf("%v, density %v, %v: %v, error %d, want %v, error %d", h, density, p, a, e, want, err)
		}
		if err != api.OK {
			none++
		} else if want.Lots > 0 {
			causes[want.Cause]++
		}
	}
	if min(none, causes[api.HullFull], causes[api.HullRiver], causes[api.HullSinks]) < 20 {
		t.Error("causes:", causes, "no load:", none)
	}
}

// P2.5: a hull with the most holds and lots.
func TestAdviseMostLots(t *testing.T) {
	h := api.Hull{Lot: 1}
	for i := range 4 {
		h.Sections = append(h.Sections, api.HullSection{Length: 50, Light: 10, Trim: 1000, Curve: rows(0, 0, 100, 100), Holds: []api.HullHold{hold(10*i, api.MaxHoldLots)}})
	}
	// Full, its mean draft is 30, but it does not lie level: one end is deeper with 73 to 80 lots, whichever they are.
	for _, c := range []struct {
		depth int
		want  api.HullAdvice
	}{{31, advice(api.HullFull, 0, 0, 20, 20, 20, 20)}, {30, advice(api.HullRiver, 0, 0, 16, 20, 20, 20)}} {
		if a, e := hull.Advise(h, water, canal(to(c.depth, c.depth))); !sameAdvice(a, c.want) || e != api.OK {
			t.Errorf("depth %d: %v, error %d, want %v", c.depth, a, e, c.want)
		}
	}
}
