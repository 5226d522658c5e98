package river_test

import (
	"math"
	"math/rand"
	"slices"
	"testing"

	"thalweg/api"
	"thalweg/river"
)

// to returns bounds.
func to(low, high int) api.Bounds { return api.Bounds{Low: low, High: high} }

// pass returns a pass of a way.
func pass(place, low, high int) api.Pass { return api.Pass{Place: place, Hours: to(low, high)} }

// example returns the river and the forecast of the document's examples, as new memory.
func example() (api.River, [][]api.Bounds) {
	upper := api.Reach{Length: 100, Delay: 2, Base: to(1000, 1000), Curve: []api.RateRow{{Flow: 0, Level: 100}, {Flow: 10000, Level: 300}}, Bottom: to(50, 60), Flood: 400}
	lower := api.Reach{Length: 50, Delay: 1, Base: to(2000, 2000), Curve: []api.RateRow{{Flow: 0, Level: 0}, {Flow: 20000, Level: 400}}, Weir: 150, Bottom: to(20, 20), Flood: 160}
	shoal := api.Shoal{Place: 120, Bed: to(40, 50), Sounded: 0, Grow: to(0, 12)}
	r := api.River{Reaches: []api.Reach{upper, lower}, Shoals: []api.Shoal{shoal}}
	return r, [][]api.Bounds{slices.Repeat([]api.Bounds{to(2000, 3000)}, 4), slices.Repeat([]api.Bounds{to(500, 500)}, 4)}
}

// extremes are integers at which sums and products would overflow.
var extremes = []int{math.MinInt, math.MinInt + 1, -1, 0, 1, math.MaxInt - 1, math.MaxInt}

// args are the arguments of the functions with a forecast, beside the river and the forecast.
type args struct {
	reach, from, to, place, hour int
	way                          []api.Pass
	closures                     []api.Closure
}

// goodArgs have no error with the example.
func goodArgs() args {
	return args{reach: 1, from: 1, to: 3, place: 120, hour: 2, way: []api.Pass{pass(10, 0, 1), pass(120, 2, 3)}, closures: []api.Closure{{From: 100, To: 110, Begin: to(0, 1), End: to(2, 3)}}}
}

// badArgs have an error in each function.
func badArgs() args {
	return args{reach: -1, from: 3, to: 1, place: -1, hour: -1000, closures: make([]api.Closure, api.MaxClosures+1)}
}

// reply is the error of a call, and whether all its other results are zero values.
type reply struct {
	name  string
	e     api.Errno
	empty bool
}

// forecastReplies calls all functions with a river and a forecast.
func forecastReplies(r api.River, sides [][]api.Bounds, a args) []reply {
	flows, e1 := river.Flows(r, sides)
	levels, e2 := river.Levels(r, sides)
	volume, e3 := river.Volume(r, sides, a.reach, a.from, a.to)
	depth, e4 := river.Depth(r, sides, a.place, a.hour)
	least, number, hour, e5 := river.Shallowest(r, sides, a.way)
	possibly, surely, e6 := river.Closed(r, sides, a.closures, a.place, a.hour)
	return []reply{
		{"Flows", e1, len(flows) == 0},
		{"Levels", e2, len(levels) == 0},
		{"Volume", e3, volume == api.Bounds{}},
		{"Depth", e4, depth == api.Bounds{}},
		{"Shallowest", e5, least == api.Bounds{} && number == 0 && hour == 0},
		{"Closed", e6, !possibly && !surely},
	}
}

// riverReplies calls all functions with a river.
func riverReplies(r api.River, sides [][]api.Bounds, a args) []reply {
	bed, e := river.Bed(r, a.place, a.hour)
	return append(forecastReplies(r, sides, a), reply{"Check", river.Check(r), true}, reply{"Bed", e, bed == api.Bounds{}})
}

// wantError fails unless all replies have an error, and nothing else.
func wantError(t *testing.T, what string, l []reply, want api.Errno) {
	t.Helper()
	for _, x := range l {
		if x.e != want {
			t.Errorf("%s: %s: error %d, want %d", what, x.name, x.e, want)
		}
		if x.e != api.OK && !x.empty {
			t.Errorf("%s: %s: a result beside the error %d", what, x.name, x.e)
		}
	}
}

// some returns random bounds from low to high.
func some(g *rand.Rand, low, high int) api.Bounds {
	a, b := low+g.Intn(high-low+1), low+g.Intn(high-low+1)
	return to(min(a, b), max(a, b))
}

// one returns a random integer within bounds.
func one(g *rand.Rand, b api.Bounds) int { return b.Low + g.Intn(b.High-b.Low+1) }

// narrower returns random bounds within bounds.
func narrower(g *rand.Rand, b api.Bounds) api.Bounds { return some(g, b.Low, b.High) }

// contains reports whether the first bounds contain the second ones.
func contains(a, b api.Bounds) bool { return a.Low <= b.Low && b.Low <= b.High && b.High <= a.High }

// randomReach returns a small reach.
func randomReach(g *rand.Rand) api.Reach {
	flow, level := g.Intn(8), g.Intn(40)
	curve := []api.RateRow{{Flow: flow, Level: level}}
	for range 1 + g.Intn(3) {
		flow, level = flow+1+g.Intn(12), level+g.Intn(30)
		curve = append(curve, api.RateRow{Flow: flow, Level: level})
	}
	return api.Reach{Length: 1 + g.Intn(3), Delay: g.Intn(4), Base: some(g, 0, 15), Curve: curve, Weir: g.Intn(40), Bottom: some(g, 0, 30), Flood: g.Intn(100)}
}

// randomRiver returns a small river with a forecast for it.
func randomRiver(g *rand.Rand) (api.River, [][]api.Bounds) {
	var r api.River
	places, hours := 0, 1+g.Intn(6)
	sides := make([][]api.Bounds, 1+g.Intn(3))
	for i := range sides {
		x := randomReach(g)
		r.Reaches = append(r.Reaches, x)
		places += x.Length
		for range hours {
			sides[i] = append(sides[i], some(g, 0, 15))
		}
	}
	for range g.Intn(6) {
		r.Shoals = append(r.Shoals, api.Shoal{Place: g.Intn(places), Bed: some(g, 0, 40), Sounded: g.Intn(60) - 50, Grow: some(g, -30, 30)})
	}
	return r, sides
}

// placesOf returns how many places a river has.
func placesOf(r api.River) int {
	n := 0
	for _, x := range r.Reaches {
		n += x.Length
	}
	return n
}

// reachOf returns the number of the reach of a place.
func reachOf(r api.River, place int) int {
	for i, x := range r.Reaches {
		if place < x.Length {
			return i
		}
		place -= x.Length
	}
	return -1
}

// randomWay returns a way with one to four passes.
func randomWay(g *rand.Rand, r api.River, hours int) []api.Pass {
	var way []api.Pass
	for range 1 + g.Intn(4) {
		way = append(way, api.Pass{Place: g.Intn(placesOf(r)), Hours: some(g, 0, hours-1)})
	}
	return way
}

// mapRiver returns a river and a forecast with all bounds changed, as new memory.
func mapRiver(r api.River, sides [][]api.Bounds, change func(api.Bounds) api.Bounds) (api.River, [][]api.Bounds) {
	next := api.River{Reaches: slices.Clone(r.Reaches), Shoals: slices.Clone(r.Shoals)}
	for i, x := range next.Reaches {
		next.Reaches[i].Base, next.Reaches[i].Bottom = change(x.Base), change(x.Bottom)
		next.Reaches[i].Curve = slices.Clone(x.Curve)
	}
	for i, x := range next.Shoals {
		next.Shoals[i].Bed, next.Shoals[i].Grow = change(x.Bed), change(x.Grow)
	}
	var l [][]api.Bounds
	for _, side := range sides {
		var row []api.Bounds
		for _, b := range side {
			row = append(row, change(b))
		}
		l = append(l, row)
	}
	return next, l
}

// keep changes no bounds.
func keep(b api.Bounds) api.Bounds { return b }

// sameRows reports whether two results of Flows or Levels, or two forecasts, are equal.
func sameRows(a, b [][]api.Bounds) bool {
	return slices.EqualFunc(a, b, slices.Equal[[]api.Bounds])
}

// sameRiver reports whether two rivers are equal.
func sameRiver(a, b api.River) bool {
	return slices.Equal(a.Shoals, b.Shoals) && slices.EqualFunc(a.Reaches, b.Reaches, func(x, y api.Reach) bool {
		same := slices.Equal(x.Curve, y.Curve)
		return same && x.Length == y.Length && x.Delay == y.Delay && x.Base == y.Base && x.Weir == y.Weir && x.Bottom == y.Bottom && x.Flood == y.Flood
	})
}

// must returns a result, and fails if there is an error.
func must[T any](t *testing.T) func(x T, e api.Errno) T {
	return func(x T, e api.Errno) T {
		t.Helper()
		if e != api.OK {
			t.Fatalf("error %d", e)
		}
		return x
	}
}
