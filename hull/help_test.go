package hull_test

import (
	"math"
	"math/rand"
	"slices"
	"testing"

	"thalweg/api"
	"thalweg/hull"
)

// to returns bounds.
func to(low, high int) api.Bounds { return api.Bounds{Low: low, High: high} }

// pass returns a pass of a way.
func pass(place, low, high int) api.Pass { return api.Pass{Place: place, Hours: to(low, high)} }

// rows returns a curve: drafts and volumes in turn.
func rows(numbers ...int) []api.HullRow {
	var l []api.HullRow
	for i := 0; i < len(numbers); i += 2 {
		l = append(l, api.HullRow{Draft: numbers[i], Volume: numbers[i+1]})
	}
	return l
}

// section returns a section of the chapter's example, with some holds.
func section(holds ...api.HullHold) api.HullSection {
	return api.HullSection{Length: 30, Light: 100, Trim: 50, Curve: rows(0, 0, 100, 300, 300, 900), Holds: holds}
}

// hold returns a hold.
func hold(at, lots int) api.HullHold { return api.HullHold{At: at, Lots: lots} }

// example returns the hull of the chapter's examples, as new memory.
func example() api.Hull {
	return api.Hull{Lot: 100, Sections: []api.HullSection{section(hold(15, 4)), section(hold(15, 4))}}
}

// water is the density of the chapter's examples.
var water = to(1000, 1000)

// passage returns the way and the river of the chapter's examples, as new memory.
func passage() api.Passage {
	upper := api.Reach{Length: 100, Delay: 2, Base: to(1000, 1000), Curve: []api.RateRow{{Level: 100}, {Flow: 10000, Level: 300}}, Bottom: to(50, 60), Flood: 400}
	lower := api.Reach{Length: 50, Delay: 1, Base: to(2000, 2000), Curve: []api.RateRow{{}, {Flow: 20000, Level: 400}}, Weir: 150, Bottom: to(20, 20), Flood: 160}
	return api.Passage{
		River: api.River{Reaches: []api.Reach{upper, lower}, Shoals: []api.Shoal{{Place: 120, Bed: to(40, 50), Grow: to(0, 12)}}},
		Sides: [][]api.Bounds{slices.Repeat([]api.Bounds{to(2000, 3000)}, 4), slices.Repeat([]api.Bounds{to(500, 500)}, 4)},
		Way:   []api.Pass{pass(10, 0, 1), pass(120, 2, 3)},
		Keel:  20,
	}
}

// canal returns a passage of a single place whose depth is known: one of the bounds for each hour, passed in the hour 0.
func canal(depths ...api.Bounds) api.Passage {
	x := api.Reach{Length: 1, Curve: []api.RateRow{{}, {Flow: api.MaxLevel, Level: api.MaxLevel}}}
	return api.Passage{River: api.River{Reaches: []api.Reach{x}}, Sides: [][]api.Bounds{depths}, Way: []api.Pass{pass(0, 0, 0)}}
}

// numberCase is a number, and whether it is valid in its place.
type numberCase struct {
	n  int
	ok bool
}

// numberCases returns numbers that are, and are not, from low to high.
func numberCases(low, high int) []numberCase {
	var l []numberCase
	for _, n := range []int{low, (low + high) / 2, high, low - 1, high + 1, math.MinInt, math.MaxInt} {
		l = append(l, numberCase{n, low <= n && n <= high})
	}
	return l
}

// boundsCase are bounds, and whether they are valid in their place.
type boundsCase struct {
	b  api.Bounds
	ok bool
}

// boundsCases returns bounds that are, and are not, valid from low to high.
func boundsCases(low, high int) []boundsCase {
	var l []boundsCase
	for _, b := range []api.Bounds{to(low, low), to(low, high), to(high, high), to(low+1, high-1)} {
		l = append(l, boundsCase{b, true})
	}
	for _, b := range []api.Bounds{to(low+1, low), to(high, low), to(low-1, low), to(low-1, low-1), to(low, high+1), to(high+1, high+1), to(math.MinInt, math.MaxInt), to(math.MaxInt, math.MinInt)} {
		l = append(l, boundsCase{b, false})
	}
	return l
}

// errorUnless returns an error unless a condition holds.
func errorUnless(ok bool, e api.Errno) api.Errno {
	if ok {
		return api.OK
	}
	return e
}

// args are the arguments of all functions of the package.
type args struct {
	h, other api.Hull
	draft    int
	load     []int
	density  api.Bounds
	p        api.Passage
	from, to int
}

// goodArgs have no error.
func goodArgs() args {
	return args{h: example(), other: example(), draft: 150, load: []int{0, 1}, density: water, p: passage(), from: 0, to: 1}
}

// reply is the error of a call, and whether all its other results are zero values.
type reply struct {
	name  string
	e     api.Errno
	empty bool
}

// isEmpty reports whether a hull is the zero value.
func isEmpty(h api.Hull) bool { return h.Lot == 0 && len(h.Sections) == 0 }

// replies calls all functions with a hull; Weld with another hull, and the other way round.
func replies(a args) []reply {
	volume, e1 := hull.Volume(a.h, a.draft)
	f, e2 := hull.Float(a.h, a.load, a.density)
	surely, possibly, pass, hour, e3 := hull.Safe(a.h, a.load, a.density, a.p)
	x, e4 := hull.Advise(a.h, a.density, a.p)
	k, e5 := hull.Later(a.h, a.load, a.density, a.p)
	rest, e6 := hull.Cut(a.h, a.from, a.to)
	first, e7 := hull.Weld(a.h, a.other)
	second, e8 := hull.Weld(a.other, a.h)
	return []reply{
		{"Check", hull.Check(a.h), true},
		{"Volume", e1, volume == 0},
		{"Float", e2, f == api.HullFloat{}},
		{"Safe", e3, !surely && !possibly && pass == 0 && hour == 0},
		{"Advise", e4, len(x.Load) == 0 && x.Lots == 0 && x.Cause == 0 && x.Pass == 0 && x.Hour == 0},
		{"Later", e5, k == 0},
		{"Cut", e6, isEmpty(rest)},
		{"Weld", e7, isEmpty(first)},
		{"Weld, the other way round", e8, isEmpty(second)},
	}
}

// wantErrors fails unless the functions of these names, or all if there are no names, return an error, and nothing else.
func wantErrors(t *testing.T, what string, a args, want api.Errno, names ...string) {
	t.Helper()
	for _, x := range replies(a) {
		if len(names) > 0 && !slices.Contains(names, x.name) {
			continue
		}
		if x.e != want {
			t.Errorf("%s: %s: error %d, want %d", what, x.name, x.e, want)
		}
		if x.e != api.OK && !x.empty {
			t.Errorf("%s: %s: a result beside the error %d", what, x.name, x.e)
		}
	}
}

// must returns a result, and fails if there is an error.
func must[T any](t *testing.T) func(x T, e api.Errno) T {
	return func(x T, e api.Errno) T {
		t.Helper()
		if e != api.OK {
			t.Fatalf("error %d", e)
		}
		return x
	}
}

// safe is what Safe returns.
type safe struct {
	surely, possibly bool
	pass, hour       int
}

// mustSafe returns what Safe returns, and fails if there is an error.
func mustSafe(t *testing.T, h api.Hull, load []int, density api.Bounds, p api.Passage) safe {
	t.Helper()
	surely, possibly, pass, hour, e := hull.Safe(h, load, density, p)
	return must[safe](t)(safe{surely, possibly, pass, hour}, e)
}

// sameHull reports whether two hulls are equal.
func sameHull(a, b api.Hull) bool {
	return a.Lot == b.Lot && slices.EqualFunc(a.Sections, b.Sections, func(x, y api.HullSection) bool {
		return x.Length == y.Length && x.Light == y.Light && x.Trim == y.Trim && slices.Equal(x.Curve, y.Curve) && slices.Equal(x.Holds, y.Holds)
	})
}

// sameAdvice reports whether two advices are equal.
func sameAdvice(a, b api.HullAdvice) bool {
	return slices.Equal(a.Load, b.Load) && a.Lots == b.Lots && a.Cause == b.Cause && a.Pass == b.Pass && a.Hour == b.Hour
}

// copyHull returns a hull as new memory.
func copyHull(h api.Hull) api.Hull {
	h.Sections = slices.Clone(h.Sections)
	for i, x := range h.Sections {
		h.Sections[i].Curve, h.Sections[i].Holds = slices.Clone(x.Curve), slices.Clone(x.Holds)
	}
	return h
}

// holdsOf returns the holds of a hull, and the distance of each from the fore end.
func holdsOf(h api.Hull) (holds []api.HullHold, at []int) {
	fore := 0
	for _, x := range h.Sections {
		for _, y := range x.Holds {
			holds, at = append(holds, y), append(at, fore+y.At)
		}
		fore += x.Length
	}
	return holds, at
}

// sum returns the sum of numbers.
func sum(numbers []int) int {
	n := 0
	for _, x := range numbers {
		n += x
	}
	return n
}

// some returns random bounds from low to high.
func some(g *rand.Rand, low, high int) api.Bounds {
	a, b := low+g.Intn(high-low+1), low+g.Intn(high-low+1)
	return to(min(a, b), max(a, b))
}

// one returns bounds of a single random integer within bounds.
func one(g *rand.Rand, b api.Bounds) api.Bounds {
	n := b.Low + g.Intn(b.High-b.Low+1)
	return to(n, n)
}

// randomSection returns a section with so many holds.
func randomSection(g *rand.Rand, holds int) api.HullSection {
	x := api.HullSection{Length: 1 + g.Intn(30), Light: g.Intn(40), Trim: 1 + g.Intn(40)}
	draft, volume := 0, 0
	x.Curve = rows(0, 0)
	for range 1 + g.Intn(4) {
		draft, volume = draft+1+g.Intn(60), volume+1+g.Intn(150)
		x.Curve = append(x.Curve, api.HullRow{Draft: draft, Volume: volume})
	}
	for range holds {
		x.Holds = append(x.Holds, hold(g.Intn(x.Length+1), g.Intn(5)))
	}
	return x
}

// randomHull returns a small hull.
func randomHull(g *rand.Rand) api.Hull {
	h := api.Hull{Lot: 1 + g.Intn(12)}
	left := g.Intn(api.MaxHullHolds + 1)
	for range 1 + g.Intn(3) {
		n := g.Intn(left + 1)
		h.Sections = append(h.Sections, randomSection(g, n))
		left -= n
	}
	return h
}

// randomLoad returns a load that a hull has room for.
func randomLoad(g *rand.Rand, h api.Hull) []int {
	holds, _ := holdsOf(h)
	var load []int
	for _, x := range holds {
		load = append(load, g.Intn(x.Lots+1))
	}
	return load
}

// randomDensity returns bounds of a density.
func randomDensity(g *rand.Rand) api.Bounds { return some(g, api.MinDensity, api.MaxDensity) }

// randomPassage returns a passage on a small river, whose depth is mostly between 0 and 150.
func randomPassage(g *rand.Rand) api.Passage {
	var p api.Passage
	hours, places := 1+g.Intn(8), 0
	for range 1 + g.Intn(2) {
		x := api.Reach{Length: 1 + g.Intn(3), Delay: g.Intn(3), Base: some(g, 0, 80), Curve: []api.RateRow{{Level: g.Intn(30)}, {Flow: 90, Level: 60 + g.Intn(120)}}, Weir: g.Intn(40), Bottom: some(g, 0, 20)}
		p.River.Reaches = append(p.River.Reaches, x)
		places += x.Length
		var side []api.Bounds
		for range hours {
			low := g.Intn(80)
			side = append(side, to(low, low+g.Intn(20)))
		}
		p.Sides = append(p.Sides, side)
	}
	for range g.Intn(3) {
		p.River.Shoals = append(p.River.Shoals, api.Shoal{Place: g.Intn(places), Bed: some(g, 0, 30), Sounded: -g.Intn(30), Grow: some(g, -20, 20)})
	}
	for range 1 + g.Intn(3) {
		low := g.Intn(hours)
		p.Way = append(p.Way, pass(g.Intn(places), low, low+g.Intn(min(3, hours-low))))
	}
	p.Keel = g.Intn(30)
	return p
}
