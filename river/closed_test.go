package river_test

import (
	"math"
	"math/rand"
	"slices"
	"testing"

	"thalweg/api"
	"thalweg/river"
)

// closure returns a closure.
func closure(from, until int, begin, end api.Bounds) api.Closure {
	return api.Closure{From: from, To: until, Begin: begin, End: end}
}

// P1.9: closures, of which one alone decides.
func TestClosures(t *testing.T) {
	one := []api.Closure{closure(100, 110, to(0, 1), to(2, 3))}
	for _, c := range []struct {
		name             string
		l                []api.Closure
		place, hour      int
		possibly, surely bool
	}{
		{"none", nil, 105, 0, false, false},
		{"may have begun", one, 105, 0, true, false}, {"has begun", one, 105, 1, true, true}, {"may have ended", one, 105, 2, true, false}, {"has ended", one, 105, 3, false, false},
		{"first place", one, 100, 1, true, true}, {"last place", one, 110, 1, true, true}, {"below", one, 111, 1, false, false}, {"above", one, 99, 1, false, false},
		{"a place", []api.Closure{closure(105, 105, to(0, 0), to(9, 9))}, 105, 3, true, true},
		{"not yet", []api.Closure{closure(100, 110, to(1, 2), to(3, 3))}, 105, 0, false, false},
		{"long ago and long ahead", []api.Closure{closure(100, 110, to(-400, -400), to(800, 800))}, 105, 0, true, true},
		{"over before", []api.Closure{closure(100, 110, to(-400, -1), to(-400, 0))}, 105, 0, false, false},
		{"possibly never", []api.Closure{closure(100, 110, to(0, 2), to(1, 3))}, 105, 1, true, false},
		{"possibly never, at its begin", []api.Closure{closure(100, 110, to(0, 2), to(1, 1))}, 105, 0, true, false},
		{"ends when it begins", []api.Closure{closure(100, 110, to(1, 1), to(1, 1))}, 105, 1, false, false},
		{"ends before it begins", []api.Closure{closure(100, 110, to(3, 3), to(1, 1))}, 105, 2, false, false},
		{"two that only together are sure", []api.Closure{closure(100, 110, to(0, 2), to(4, 4)), closure(100, 110, to(0, 0), to(1, 3))}, 105, 1, true, false},
		{"two, the second is sure", []api.Closure{closure(100, 110, to(0, 2), to(4, 4)), closure(100, 110, to(0, 0), to(2, 3))}, 105, 1, true, true},
		{"two at other places", []api.Closure{closure(100, 104, to(0, 0), to(4, 4)), closure(106, 110, to(0, 0), to(4, 4))}, 105, 1, false, false},
		{"one possible, and one elsewhere", []api.Closure{closure(105, 105, to(1, 2), to(4, 4)), closure(106, 110, to(0, 0), to(4, 4))}, 105, 1, true, false},
	} {
		r, sides := example()
		possibly, surely, e := river.Closed(r, sides, c.l, c.place, c.hour)
		if possibly != c.possibly || surely != c.surely || e != api.OK {
			t.Errorf("%s: possibly %t, surely %t, error %d", c.name, possibly, surely, e)
		}
	}
}

// P1.9: a reach is closed above its flood level, and not at it.
func TestFlood(t *testing.T) {
	for _, c := range []struct {
		place, upper, lower int
		possibly, surely    bool
	}{
		{0, 160, 0, false, false}, {0, 159, 0, true, false}, {0, 141, 0, true, false}, {99, 140, 0, true, false}, {99, 139, 0, true, true}, {0, 0, 10000, true, true},
		{100, 0, 150, false, false}, {100, 0, 149, true, true}, {149, 10000, 149, true, true}, {149, 10000, 10000, false, false},
	} {
		r, sides := example()
		r.Reaches[0].Flood, r.Reaches[1].Flood = c.upper, c.lower
		possibly, surely, e := river.Closed(r, sides, nil, c.place, 1)
		if possibly != c.possibly || surely != c.surely || e != api.OK {
			t.Errorf("%+v: possibly %t, surely %t, error %d", c, possibly, surely, e)
		}
	}
	r, sides := example()
	r.Reaches[0].Flood = 150
	sides[0][2] = to(2600, 2700)
	for hour, surely := range []bool{false, false, true, false} {
		if a, b, e := river.Closed(r, sides, []api.Closure{closure(0, 9, to(8, 8), to(9, 9))}, 5, hour); !a || b != surely || e != api.OK {
			t.Errorf("hour %d: possibly %t, surely %t, error %d", hour, a, b, e)
		}
	}
}

// P1.9: the errors of closures, before those of the place and the hour.
func TestClosedErrors(t *testing.T) {
	good := closure(0, 149, to(0, 0), to(0, 0))
	type errorCase struct {
		l           []api.Closure
		place, hour int
		e           api.Errno
	}
	l := []errorCase{
		{slices.Repeat([]api.Closure{good}, 40), 0, 0, api.OK}, {slices.Repeat([]api.Closure{good}, 41), 0, 0, api.ErrLong}, {make([]api.Closure, 41), 150, 4, api.ErrLong}, {slices.Repeat([]api.Closure{closure(-1, 0, to(1, 0), to(1, 0))}, 41), 0, 0, api.ErrLong},
		{[]api.Closure{closure(2, 1, to(0, 0), to(0, 0))}, 0, 0, api.ErrArg}, {[]api.Closure{closure(2, 2, to(0, 0), to(0, 0))}, 0, 0, api.OK}, {[]api.Closure{good, closure(2, 1, to(0, 0), to(0, 0))}, 150, 4, api.ErrArg},
		{[]api.Closure{closure(math.MaxInt, math.MinInt, to(0, 0), to(0, 0))}, 0, 0, api.ErrArg}, {[]api.Closure{closure(math.MinInt, math.MaxInt, to(0, 0), to(0, 0))}, 0, 0, api.ErrArg},
	}
	for _, c := range numberCases(0, 149) {
		l = append(l, errorCase{[]api.Closure{closure(c.n, 149, to(0, 0), to(0, 0))}, 0, 0, errorUnless(c.ok, api.ErrArg)})
		l = append(l, errorCase{[]api.Closure{closure(0, c.n, to(0, 0), to(0, 0))}, 0, 0, errorUnless(c.ok, api.ErrArg)})
		for _, h := range numberCases(0, 3) {
			want := errorUnless(h.ok, api.ErrRange)
			if !c.ok {
				want = api.ErrNone
			}
			l = append(l, errorCase{nil, c.n, h.n, want}, errorCase{[]api.Closure{good}, c.n, h.n, want})
		}
	}
	for _, c := range boundsCases(-400, 800) {
		for _, other := range [][]api.Closure{nil, {good}} {
			l = append(l, errorCase{append(slices.Clone(other), closure(0, 9, c.b, to(0, 0))), 0, 0, errorUnless(c.ok, api.ErrArg)})
			l = append(l, errorCase{append(slices.Clone(other), closure(0, 9, to(0, 0), c.b)), 0, 0, errorUnless(c.ok, api.ErrArg)})
		}
	}
	for i, c := range l {
		r, sides := example()
		r.Reaches[0].Flood = 0
		possibly, surely, e := river.Closed(r, sides, c.l, c.place, c.hour)
		if e != c.e || e != api.OK && (possibly || surely) {
			t.Errorf("%d: %d closures, place %d, hour %d: %t, %t, error %d, want %d", i, len(c.l), c.place, c.hour, possibly, surely, e, c.e)
		}
	}
}

// closedAlways reports whether a closure closes a place in an hour for some, and for all, integers of its begin and its end.
func closedAlways(c api.Closure, place, hour int) (some, all bool) {
	all = true
	for begin := c.Begin.Low; begin <= c.Begin.High; begin++ {
		for end := c.End.Low; end <= c.End.High; end++ {
			closes := c.From <= place && place <= c.To && begin <= hour && hour <= end-1
			some, all = some || closes, all && closes
		}
	}
	return some, all
}

// P1.9: Closed says of random closures and floods what trying all begins and ends says.
func TestClosedByTrying(t *testing.T) {
	g := rand.New(rand.NewSource(6))
	for range 500 {
		r, sides := randomRiver(g)
		levels := must[[][]api.Bounds](t)(river.Levels(r, sides))
		places := placesOf(r)
		var l []api.Closure
		for range g.Intn(4) {
			reach := some(g, 0, places-1)
			l = append(l, closure(reach.Low, reach.High, some(g, -3, 5), some(g, -3, 8)))
		}
		place, hour := g.Intn(places), g.Intn(len(sides[0]))
		x := reachOf(r, place)
		possibly, surely := levels[x][hour].High > r.Reaches[x].Flood, levels[x][hour].Low > r.Reaches[x].Flood
		for _, c := range l {
			a, b := closedAlways(c, place, hour)
			possibly, surely = possibly || a, surely || b
		}
		if a, b, e := river.Closed(r, sides, l, place, hour); a != possibly || b != surely || e != api.OK {
			t.Fatalf("%v, place %d, hour %d: %t, %t, error %d, want %t, %t", l, place, hour, a, b, e, possibly, surely)
		}
	}
}
