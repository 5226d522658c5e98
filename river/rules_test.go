package river_test

import (
	"math/rand"
	"slices"
	"testing"

	"thalweg/api"
	"thalweg/river"
)

// P1: all functions return, whatever their arguments are.
func TestExtremes(t *testing.T) {
	for _, a := range extremes {
		for _, b := range extremes {
			r, sides := example()
			x := api.Reach{Length: a, Delay: b, Base: to(a, b), Curve: []api.RateRow{{Flow: a, Level: b}, {Flow: b, Level: a}}, Weir: a, Bottom: to(b, a), Flood: b}
			l := args{reach: a, from: a, to: b, place: a, hour: b, way: []api.Pass{pass(a, b, a), pass(b, a, b)}, closures: []api.Closure{closure(a, b, to(a, b), to(b, a)), {}}}
			forecastReplies(r, sides, l)
			forecastReplies(r, [][]api.Bounds{{to(a, b)}, {to(b, a)}}, l)
			riverReplies(api.River{Reaches: []api.Reach{x, x}, Shoals: []api.Shoal{{Place: a, Bed: to(a, b), Sounded: b, Grow: to(b, a)}}}, sides, l)
			r.Shoals[0] = api.Shoal{Place: 120, Bed: to(0, 1), Sounded: a, Grow: to(a, b)}
			riverReplies(r, sides, l)
			river.Bed(r, a, b)
			river.Level(x, to(a, b))
			river.Level(steps(), to(a, b))
			river.Runoff(api.Catch{Area: a, Percent: b, Melt: a, Snow: to(b, a)}, []api.SkyHour{{}})
			river.Runoff(land(), []api.SkyHour{skyHour(to(a, b), to(b, a))})
		}
	}
	riverReplies(api.River{}, nil, args{})
	river.Level(api.Reach{}, api.Bounds{})
}

// P1, R1, R2: with valid rivers, forecasts and other arguments, or not, no result comes with an error.
func TestNothingBesideErrors(t *testing.T) {
	g := rand.New(rand.NewSource(17))
	for range 300 {
		r, sides := randomRiver(g)
		hours, places := len(sides[0]), placesOf(r)
		a := args{reach: g.Intn(5) - 1, from: g.Intn(hours+3) - 1, to: g.Intn(hours+3) - 1, place: g.Intn(places+2) - 1, hour: g.Intn(hours+2) - 1}
		for range g.Intn(3) {
			a.way = append(a.way, pass(g.Intn(places+2)-1, g.Intn(hours+1)-1, g.Intn(hours+1)))
			a.closures = append(a.closures, closure(g.Intn(places+2)-1, g.Intn(places+1), some(g, -402, 802), some(g, 0, 9)))
		}
		for _, x := range riverReplies(r, sides, a) {
			if x.e != api.OK && !x.empty {
				t.Fatalf("%s: a result beside the error %d", x.name, x.e)
			}
		}
	}
}

// R3: nil and empty lists are the same.
func TestNilAndEmpty(t *testing.T) {
	r, sides := example()
	for _, shoals := range [][]api.Shoal{nil, {}} {
		r.Shoals = shoals
		for _, l := range [][]api.Closure{nil, {}} {
			a := goodArgs()
			a.closures = l
			wantError(t, "no closures", riverReplies(r, sides, a), api.OK)
		}
	}
	for _, empty := range []api.River{{}, {Reaches: []api.Reach{}, Shoals: []api.Shoal{}}} {
		for _, l := range [][][]api.Bounds{nil, {}} {
			wantError(t, "no reaches", riverReplies(empty, l, goodArgs()), api.ErrArg)
		}
	}
	for _, sky := range [][]api.SkyHour{nil, {}} {
		if l, e := river.Runoff(land(), sky); len(l) != 0 || e != api.OK {
			t.Error("no hours:", l, e)
		}
	}
}

// R4: no argument is changed.
func TestArgumentsAreKept(t *testing.T) {
	r, sides := example()
	q, water := mapRiver(r, sides, keep)
	a, b := goodArgs(), goodArgs()
	wantError(t, "example", riverReplies(r, sides, a), api.OK)
	must[api.Bounds](t)(river.Level(r.Reaches[0], to(7, 9)))
	if !sameRiver(r, q) || !sameRows(sides, water) || !slices.Equal(a.way, b.way) || !slices.Equal(a.closures, b.closures) {
		t.Error("an argument was changed:", r, sides, a)
	}
	sky := []api.SkyHour{skyHour(to(200, 300), to(10, 40)), skyHour(to(1, 2), to(3, 4))}
	same := slices.Clone(sky)
	must[[]api.Bounds](t)(river.Runoff(land(), sky))
	if !slices.Equal(sky, same) {
		t.Error("the sky was changed:", sky)
	}
}

// R4: a result shares no memory with an argument, and no two rows of a result with each other.
func TestResultsAreNew(t *testing.T) {
	for name, call := range map[string]func(api.River, [][]api.Bounds) ([][]api.Bounds, api.Errno){"Flows": river.Flows, "Levels": river.Levels} {
		r, sides := example()
		q, water := mapRiver(r, sides, keep)
		want := must[[][]api.Bounds](t)(call(q, water))
		rows := must[[][]api.Bounds](t)(call(r, sides))
		for i := range sides {
			for hour := range sides[i] {
				sides[i][hour] = to(8, 9)
			}
		}
		r.Reaches[0].Curve[0].Level, r.Reaches[1] = 7, api.Reach{}
		if !sameRows(rows, want) {
			t.Errorf("%s: arguments that change later change the result: %v", name, rows)
		}
		for i := range rows {
			for hour := range rows[i] {
				rows[i][hour] = to(-1, -1)
			}
			for j := i + 1; j < len(rows); j++ {
				if !slices.Equal(rows[j], want[j]) {
					t.Errorf("%s: the rows %d and %d share memory", name, i, j)
				}
			}
		}
		for i := range sides {
			for hour := range sides[i] {
				if sides[i][hour] != to(8, 9) {
					t.Errorf("%s: the result shares memory with the forecast", name)
				}
			}
		}
	}
}

// P1: the same arguments have the same results, whatever was asked before.
func TestNoState(t *testing.T) {
	r, sides := example()
	first := must[[][]api.Bounds](t)(river.Flows(r, sides))
	g := rand.New(rand.NewSource(18))
	for range 20 {
		q, water := randomRiver(g)
		must[[][]api.Bounds](t)(river.Levels(q, water))
	}
	if again := must[[][]api.Bounds](t)(river.Flows(r, sides)); !sameRows(first, again) {
		t.Errorf("%v, then %v", first, again)
	}
}
