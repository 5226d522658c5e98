package river_test

import (
	"math"
	"slices"
	"strconv"
	"testing"

	"thalweg/api"
	"thalweg/river"
)

// boundsCase are bounds, and whether they are valid in their place.
type boundsCase struct {
	b  api.Bounds
	ok bool
}

// boundsCases returns bounds that are, and are not, valid from low to high.
func boundsCases(low, high int) []boundsCase {
	return []boundsCase{
		{to(low, low), true}, {to(low, high), true}, {to(high, high), true}, {to(low+1, high-1), true},
		{to(low+2, low+1), false}, {to(high, low), false}, {to(low-1, low), false}, {to(low-1, low-1), false}, {to(low, high+1), false}, {to(high+1, high+1), false},
		{to(math.MinInt, math.MaxInt), false}, {to(math.MaxInt, math.MinInt), false},
	}
}

// numberCase is a number, and whether it is valid in its place.
type numberCase struct {
	n  int
	ok bool
}

// numberCases returns numbers that are, and are not, from low to high.
func numberCases(low, high int) []numberCase {
	return []numberCase{{low, true}, {low + 1, true}, {high, true}, {low - 1, false}, {high + 1, false}, {math.MinInt, false}, {math.MaxInt, false}}
}

// curveCases returns curves that are, and are not, valid.
func curveCases() []struct {
	rows []api.RateRow
	ok   bool
} {
	rows := func(l ...int) []api.RateRow {
		var c []api.RateRow
		for i := 0; i < len(l); i += 2 {
			c = append(c, api.RateRow{Flow: l[i], Level: l[i+1]})
		}
		return c
	}
	var long []api.RateRow
	for i := range api.MaxCurve + 1 {
		long = append(long, api.RateRow{Flow: i, Level: i})
	}
	return []struct {
		rows []api.RateRow
		ok   bool
	}{
		{nil, false}, {rows(0, 0), false}, {rows(0, 0, 1, 0), true}, {long[:api.MaxCurve], true}, {long, false},
		{rows(0, 0, 0, 1), false}, {rows(5, 0, 4, 1), false}, {rows(0, 0, 3, 1, 3, 2), false}, {rows(0, 0, 3, 1, 2, 2), false}, {rows(0, 0, 1, 0, 3, 0), true},
		{rows(0, 5, 1, 5), true}, {rows(0, 5, 1, 4), false}, {rows(0, 0, 1, 7, 2, 6), false},
		{rows(-1, 0, 1, 1), false}, {rows(0, 0, api.MaxSide, 1), true}, {rows(0, 0, api.MaxSide+1, 1), false},
		{rows(0, -1, 1, 1), false}, {rows(0, 0, 1, api.MaxLevel), true}, {rows(0, 0, 1, api.MaxLevel+1), false}, {rows(0, api.MaxLevel, 1, api.MaxLevel), true}, {rows(0, 0, 1, 2, 2, api.MaxLevel+1), false},
		{rows(math.MinInt, 0, math.MaxInt, 1), false}, {rows(0, math.MinInt, 1, math.MaxInt), false},
	}
}

// reachCase is a change of a reach that is valid before, and whether it is so afterwards.
type reachCase struct {
	name   string
	change func(x *api.Reach)
	ok     bool
}

// reachCases returns changes of each field of a reach.
func reachCases() []reachCase {
	var l []reachCase
	number := func(name string, low, high int, set func(x *api.Reach, n int)) {
		for _, c := range numberCases(low, high) {
			l = append(l, reachCase{name + " " + strconv.Itoa(c.n), func(x *api.Reach) { set(x, c.n) }, c.ok})
		}
	}
	number("Length", 1, api.MaxLength, func(x *api.Reach, n int) { x.Length = n })
	number("Delay", 0, api.MaxDelay, func(x *api.Reach, n int) { x.Delay = n })
	number("Weir", 0, api.MaxLevel, func(x *api.Reach, n int) { x.Weir = n })
	number("Flood", 0, api.MaxLevel, func(x *api.Reach, n int) { x.Flood = n })
	for _, c := range boundsCases(0, api.MaxSide) {
		l = append(l, reachCase{"Base", func(x *api.Reach) { x.Base = c.b }, c.ok})
	}
	for _, c := range boundsCases(0, api.MaxLevel) {
		l = append(l, reachCase{"Bottom", func(x *api.Reach) { x.Bottom = c.b }, c.ok})
	}
	for i, c := range curveCases() {
		l = append(l, reachCase{"Curve " + strconv.Itoa(i), func(x *api.Reach) { x.Curve = c.rows }, c.ok})
	}
	return l
}

// errorUnless returns OK, or an error.
func errorUnless(ok bool, e api.Errno) api.Errno {
	if ok {
		return api.OK
	}
	return e
}

// P1.1: each field of each reach has its limits; P1.4: Level has the same ones.
func TestCheckReaches(t *testing.T) {
	for _, c := range reachCases() {
		for i := range 2 {
			r, sides := example()
			r.Shoals = nil
			c.change(&r.Reaches[i])
			a := goodArgs()
			a.place, a.way, a.closures = 0, []api.Pass{pass(0, 0, 0)}, nil
			want := errorUnless(c.ok, api.ErrArg)
			wantError(t, c.name, riverReplies(r, sides, a), want)
			if level, e := river.Level(r.Reaches[i], to(0, 1)); e != want || want != api.OK && level != to(0, 0) {
				t.Errorf("%s: Level: %v, error %d, want %d", c.name, level, e, want)
			}
		}
	}
}

// P1.1: each field of each shoal has its limits.
func TestCheckShoals(t *testing.T) {
	type shoalCase struct {
		name   string
		change func(x *api.Shoal)
		ok     bool
	}
	var l []shoalCase
	for _, c := range numberCases(0, 149) {
		l = append(l, shoalCase{"Place", func(x *api.Shoal) { x.Place = c.n }, c.ok})
	}
	for _, c := range numberCases(-api.MaxRiverHours, api.MaxRiverHours) {
		l = append(l, shoalCase{"Sounded", func(x *api.Shoal) { x.Sounded = c.n }, c.ok})
	}
	for _, c := range boundsCases(0, api.MaxLevel) {
		l = append(l, shoalCase{"Bed", func(x *api.Shoal) { x.Bed = c.b }, c.ok})
	}
	for _, c := range boundsCases(-api.MaxShift, api.MaxShift) {
		l = append(l, shoalCase{"Grow", func(x *api.Shoal) { x.Grow = c.b }, c.ok})
	}
	for _, c := range l {
		for i := range 2 {
			r, sides := example()
			r.Shoals = append(r.Shoals, r.Shoals[0])
			c.change(&r.Shoals[i])
			wantError(t, c.name, riverReplies(r, sides, goodArgs()), errorUnless(c.ok, api.ErrArg))
		}
	}
}

// P1.1: a river has 1 to 20 reaches, and at most 40 shoals.
func TestCheckCounts(t *testing.T) {
	for _, c := range []struct {
		reaches, shoals int
		ok              bool
	}{{0, 0, false}, {1, 0, true}, {2, 1, true}, {20, 40, true}, {21, 0, false}, {40, 0, false}, {1, 40, true}, {1, 41, false}} {
		r, sides := example()
		r.Reaches = slices.Repeat(r.Reaches[:1], c.reaches)
		r.Shoals = slices.Repeat([]api.Shoal{{Place: 3}}, c.shoals)
		sides = slices.Repeat(sides[:1], c.reaches)
		a := goodArgs()
		a.reach, a.place, a.way, a.closures = 0, 5, []api.Pass{pass(5, 0, 0)}, nil
		wantError(t, "counts", riverReplies(r, sides, a), errorUnless(c.ok, api.ErrArg))
	}
	if e := river.Check(api.River{}); e != api.ErrArg {
		t.Error("no river:", e)
	}
}

// forecastCase is a change of the example's forecast, and its error.
type forecastCase struct {
	name   string
	change func(l [][]api.Bounds) [][]api.Bounds
	e      api.Errno
}

// forecastCases returns forecasts with the errors of P1.1, also with several at once.
func forecastCases() []forecastCase {
	hours := func(a, b int) [][]api.Bounds { return [][]api.Bounds{make([]api.Bounds, a), make([]api.Bounds, b)} }
	bad := func(l [][]api.Bounds) [][]api.Bounds {
		l[0][0] = to(2, 1)
		return l
	}
	give := func(l [][]api.Bounds) func([][]api.Bounds) [][]api.Bounds {
		return func([][]api.Bounds) [][]api.Bounds { return l }
	}
	l := []forecastCase{
		{"no lists", give(nil), api.ErrForm},
		{"a list too few", func(l [][]api.Bounds) [][]api.Bounds { return l[:1] }, api.ErrForm},
		{"a list too many", func(l [][]api.Bounds) [][]api.Bounds { return append(l, l[0]) }, api.ErrForm},
		{"no hours", give(hours(0, 0)), api.ErrForm},
		{"nil lists", give(make([][]api.Bounds, 2)), api.ErrForm},
		{"hours for the upper reach only", give(hours(4, 0)), api.ErrForm},
		{"hours for the lower reach only", give(hours(0, 4)), api.ErrForm},
		{"a longer list", give(hours(4, 5)), api.ErrForm},
		{"a shorter list", give(hours(5, 4)), api.ErrForm},
		{"the most hours", give(hours(400, 400)), api.OK},
		{"too many hours", give(hours(401, 401)), api.ErrLong},
		{"too many hours in one list", give(hours(401, 400)), api.ErrForm},
		{"too many hours in the other list", give(hours(4, 401)), api.ErrForm},
		{"bad bounds in lists of other lengths", give(bad(hours(5, 4))), api.ErrForm},
		{"bad bounds in too few lists", give(bad(hours(5, 5))[:1]), api.ErrForm},
		{"bad bounds in too many hours", give(bad(hours(401, 401))), api.ErrLong},
	}
	for _, c := range boundsCases(0, api.MaxSide) {
		for reach := range 2 {
			for _, hour := range []int{0, 3} {
				change := func(l [][]api.Bounds) [][]api.Bounds {
					l[reach][hour] = c.b
					return l
				}
				l = append(l, forecastCase{"bounds", change, errorUnless(c.ok, api.ErrArg)})
			}
		}
	}
	return l
}

// P1.1: all functions with a forecast return its errors, in their order, and before their own ones.
func TestForecasts(t *testing.T) {
	for _, c := range forecastCases() {
		r, sides := example()
		sides = c.change(sides)
		wantError(t, c.name, forecastReplies(r, sides, goodArgs()), c.e)
		if c.e != api.OK {
			wantError(t, c.name+", bad arguments", forecastReplies(r, sides, badArgs()), c.e)
		}
	}
}

// P1.1: the error of the river comes before all others.
func TestRiverErrorIsFirst(t *testing.T) {
	for _, change := range []func(r *api.River){
		func(r *api.River) { r.Reaches = nil },
		func(r *api.River) { r.Reaches[1].Length = 0 },
		func(r *api.River) { r.Shoals[0].Place = 150 },
	} {
		for _, sides := range [][][]api.Bounds{nil, {nil, nil}, {make([]api.Bounds, 401), make([]api.Bounds, 401)}, {{to(2, 1)}, {to(0, 0)}}} {
			r, _ := example()
			change(&r)
			wantError(t, "river", riverReplies(r, sides, badArgs()), api.ErrArg)
			wantError(t, "river", riverReplies(r, sides, goodArgs()), api.ErrArg)
		}
	}
}
