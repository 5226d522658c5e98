package river_test

import (
	"math"
	"math/rand"
	"slices"
	"testing"

	"thalweg/api"
	"thalweg/river"
)

// P1.6: the example 3 of the chapter, and a shoal before and after it was sounded.
func TestBed(t *testing.T) {
	for _, c := range []struct {
		name  string
		shoal api.Shoal
		hour  int
		want  api.Bounds
	}{
		{"the example", api.Shoal{Bed: to(40, 50), Grow: to(0, 12)}, 4, to(40, 52)},
		{"rounded up", api.Shoal{Bed: to(40, 50), Grow: to(0, 12)}, 3, to(40, 52)},
		{"an hour", api.Shoal{Bed: to(40, 50), Grow: to(0, 12)}, 1, to(40, 51)},
		{"when it was sounded", api.Shoal{Bed: to(40, 50), Grow: to(5, 12)}, 0, to(40, 50)},
		{"before it was sounded", api.Shoal{Bed: to(40, 50), Grow: to(5, 12)}, -1, to(40, 50)},
		{"long before", api.Shoal{Bed: to(40, 50), Sounded: 400, Grow: to(-500, 500)}, -400, to(40, 50)},
		{"sounded later", api.Shoal{Bed: to(40, 50), Sounded: 100, Grow: to(24, 48)}, 99, to(40, 50)},
		{"an hour after that", api.Shoal{Bed: to(40, 50), Sounded: 100, Grow: to(24, 48)}, 101, to(41, 52)},
		{"sounded earlier", api.Shoal{Bed: to(40, 50), Sounded: -48, Grow: to(10, 11)}, 0, to(60, 72)},
		{"sounded and asked earlier", api.Shoal{Bed: to(40, 50), Sounded: -48, Grow: to(10, 11)}, -24, to(50, 61)},
		{"rounded down", api.Shoal{Bed: to(40, 50), Grow: to(1, 1)}, 23, to(40, 51)},
		{"a day", api.Shoal{Bed: to(40, 50), Grow: to(1, 1)}, 24, to(41, 51)},
		{"a day and an hour", api.Shoal{Bed: to(40, 50), Grow: to(1, 1)}, 25, to(41, 52)},
		{"shrinks", api.Shoal{Bed: to(90, 95), Grow: to(-24, -12)}, 4, to(86, 93)},
		{"shrinks, rounded", api.Shoal{Bed: to(90, 95), Grow: to(-1, -1)}, 1, to(89, 95)},
		{"shrinks, rounded later", api.Shoal{Bed: to(90, 95), Grow: to(-1, -1)}, 25, to(88, 94)},
		{"shrinks or grows", api.Shoal{Bed: to(90, 95), Grow: to(-7, 7)}, 12, to(86, 99)},
		{"below the bottom", api.Shoal{Bed: to(10, 15), Grow: to(0, 0)}, 1, to(20, 30)},
		{"partly below the bottom", api.Shoal{Bed: to(10, 35), Grow: to(0, 0)}, 1, to(20, 35)},
		{"at least as high as the bottom", api.Shoal{Bed: to(25, 26), Grow: to(0, 0)}, 1, to(25, 30)},
		{"washed away", api.Shoal{Bed: to(40, 50), Sounded: -400, Grow: to(-500, -500)}, 400, to(20, 30)},
		{"the most", api.Shoal{Bed: to(0, 10000), Sounded: -400, Grow: to(-500, 500)}, 400, to(20, 26667)},
	} {
		r, _ := example()
		r.Reaches[1].Bottom = to(20, 30)
		c.shoal.Place = 120
		r.Shoals = []api.Shoal{c.shoal}
		if b, e := river.Bed(r, 120, c.hour); b != c.want || e != api.OK {
			t.Errorf("%s: %v, error %d, want %v", c.name, b, e, c.want)
		}
		for _, place := range []int{119, 121} {
			if b, e := river.Bed(r, place, c.hour); b != to(20, 30) || e != api.OK {
				t.Errorf("%s: beside it: %v, error %d", c.name, b, e)
			}
		}
	}
}

// P1.6: several shoals at a place; each end has its own greatest.
func TestBedOfShoals(t *testing.T) {
	r, _ := example()
	r.Shoals = []api.Shoal{{Place: 7, Bed: to(70, 75)}, {Place: 8, Bed: to(99, 99)}, {Place: 7, Bed: to(0, 90)}, {Place: 7, Bed: to(65, 80), Grow: to(24, 24)}}
	for _, c := range []struct{ hour, low, high int }{{0, 70, 90}, {4, 70, 90}, {5, 70, 90}, {6, 71, 90}, {11, 76, 91}} {
		if b, e := river.Bed(r, 7, c.hour); b != to(c.low, c.high) || e != api.OK {
			t.Errorf("hour %d: %v, error %d, want %v", c.hour, b, e, to(c.low, c.high))
		}
	}
	slices.Reverse(r.Shoals)
	if b, e := river.Bed(r, 7, 6); b != to(71, 90) || e != api.OK {
		t.Error("other order:", b, e)
	}
}

// P1.6, P1.7: each place has the bottom and the level of its own reach.
func TestReachOfPlace(t *testing.T) {
	r, sides := chain(0, 0, 0)
	for i, length := range []int{1, 3, 2} {
		r.Reaches[i].Length, r.Reaches[i].Bottom, r.Reaches[i].Weir = length, to(i, i), 1000*(i+1)
	}
	for place, reach := range []int{0, 1, 1, 1, 2, 2} {
		b, e := river.Bed(r, place, 0)
		d, f := river.Depth(r, sides, place, 0)
		depth := 1000*(reach+1) - reach
		if b != to(reach, reach) || e != api.OK || d != to(depth, depth) || f != api.OK {
			t.Errorf("place %d: %v, error %d, %v, error %d", place, b, e, d, f)
		}
	}
}

// P1.6: the errors of Bed, that of the place first.
func TestBedErrors(t *testing.T) {
	r, _ := example()
	for _, place := range numberCases(0, 149) {
		for _, hour := range numberCases(-api.MaxRiverHours, api.MaxRiverHours) {
			want := errorUnless(hour.ok, api.ErrRange)
			if !place.ok {
				want = api.ErrNone
			}
			b, e := river.Bed(r, place.n, hour.n)
			if e != want || e != api.OK && b != to(0, 0) {
				t.Errorf("place %d, hour %d: %v, error %d, want %d", place.n, hour.n, b, e, want)
			}
		}
	}
}

// P1.7: the least water over the highest bed, and the other way round, but not below 0.
func TestDepth(t *testing.T) {
	for _, c := range []struct {
		name        string
		place, hour int
		bottom      api.Bounds
		want        api.Bounds
	}{
		{"the example", 120, 3, to(50, 60), to(98, 110)}, {"the example, an hour before", 120, 2, to(50, 60), to(99, 110)}, {"no shoal", 10, 0, to(50, 60), to(80, 110)},
		{"just dry", 10, 0, to(50, 140), to(0, 110)}, {"a centimeter", 10, 0, to(50, 139), to(1, 110)}, {"possibly dry", 10, 0, to(50, 141), to(0, 110)}, {"surely dry", 10, 0, to(160, 160), to(0, 0)}, {"high and dry", 10, 0, to(200, 300), to(0, 0)}, {"nearly dry", 10, 0, to(159, 300), to(0, 1)},
	} {
		r, sides := example()
		r.Reaches[0].Bottom = c.bottom
		if d, e := river.Depth(r, sides, c.place, c.hour); d != c.want || e != api.OK {
			t.Errorf("%s: %v, error %d, want %v", c.name, d, e, c.want)
		}
	}
}

// P1.7: in each hour the depth is that of the level and the bed of this hour.
func TestDepthByHours(t *testing.T) {
	g := rand.New(rand.NewSource(5))
	for range 200 {
		r, sides := randomRiver(g)
		levels := must[[][]api.Bounds](t)(river.Levels(r, sides))
		for place := range placesOf(r) {
			for hour := range sides[0] {
				level, bed := levels[reachOf(r, place)][hour], must[api.Bounds](t)(river.Bed(r, place, hour))
				want := to(max(0, level.Low-bed.High), max(0, level.High-bed.Low))
				if d := must[api.Bounds](t)(river.Depth(r, sides, place, hour)); d != want {
					t.Fatalf("place %d, hour %d: %v, want %v", place, hour, d, want)
				}
			}
		}
	}
}

// P1.7: the errors of Depth, that of the place first.
func TestDepthErrors(t *testing.T) {
	r, sides := example()
	for _, place := range numberCases(0, 149) {
		for _, hour := range numberCases(0, 3) {
			want := errorUnless(hour.ok, api.ErrRange)
			if !place.ok {
				want = api.ErrNone
			}
			d, e := river.Depth(r, sides, place.n, hour.n)
			if e != want || e != api.OK && d != to(0, 0) {
				t.Errorf("place %d, hour %d: %v, error %d, want %d", place.n, hour.n, d, e, want)
			}
		}
	}
}

// P1.8: the example 4 of the chapter, and ways with several places that are as shallow.
func TestShallowest(t *testing.T) {
	for _, c := range []struct {
		name       string
		way        []api.Pass
		want       api.Bounds
		pass, hour int
	}{
		{"the example", []api.Pass{pass(10, 0, 1), pass(120, 2, 3)}, to(80, 110), 0, 0},
		{"later hours", []api.Pass{pass(120, 1, 3)}, to(98, 110), 0, 3},
		{"the first hour", []api.Pass{pass(130, 2, 3)}, to(130, 130), 0, 2},
		{"the first pass", []api.Pass{pass(130, 2, 3), pass(140, 0, 0)}, to(130, 130), 0, 2},
		{"a later pass", []api.Pass{pass(120, 0, 0), pass(130, 0, 3), pass(120, 1, 2)}, to(99, 110), 2, 1},
		{"the first of equal passes", []api.Pass{pass(130, 0, 0), pass(99, 2, 3), pass(0, 0, 3)}, to(80, 110), 1, 2},
		{"one hour", []api.Pass{pass(149, 3, 3)}, to(130, 130), 0, 3},
		{"all hours", []api.Pass{pass(0, 0, 3)}, to(80, 110), 0, 0},
	} {
		r, sides := example()
		b, p, h, e := river.Shallowest(r, sides, c.way)
		if b != c.want || p != c.pass || h != c.hour || e != api.OK {
			t.Errorf("%s: %v, pass %d, hour %d, error %d", c.name, b, p, h, e)
		}
	}
}

// P1.8: High is the least one, of all passes, of the greatest High of the hours, wherever Low is.
func TestShallowestHigh(t *testing.T) {
	r := api.River{Reaches: []api.Reach{{Length: 3, Curve: []api.RateRow{{}, {Flow: 1000, Level: 1000}}}}}
	r.Shoals = []api.Shoal{{Place: 1, Bed: to(0, 50)}, {Place: 2, Bed: to(30, 30)}}
	sides := [][]api.Bounds{{to(100, 200), to(300, 350), to(90, 500)}}
	for _, c := range []struct {
		way        []api.Pass
		want       api.Bounds
		pass, hour int
	}{
		{[]api.Pass{pass(0, 0, 1)}, to(100, 350), 0, 0}, {[]api.Pass{pass(0, 0, 2)}, to(90, 500), 0, 2}, {[]api.Pass{pass(0, 1, 2)}, to(90, 500), 0, 2},
		{[]api.Pass{pass(0, 0, 2), pass(0, 0, 0)}, to(90, 200), 0, 2}, {[]api.Pass{pass(0, 0, 0), pass(0, 0, 2)}, to(90, 200), 1, 2},
		{[]api.Pass{pass(1, 0, 1), pass(2, 0, 1)}, to(50, 320), 0, 0}, {[]api.Pass{pass(2, 0, 1), pass(1, 0, 1)}, to(50, 320), 1, 0}, {[]api.Pass{pass(2, 0, 0), pass(1, 1, 2)}, to(40, 170), 1, 2},
	} {
		b, p, h, e := river.Shallowest(r, sides, c.way)
		if b != c.want || p != c.pass || h != c.hour || e != api.OK {
			t.Errorf("%v: %v, pass %d, hour %d, error %d, want %v, %d, %d", c.way, b, p, h, e, c.want, c.pass, c.hour)
		}
	}
}

// P1.8: the errors of ways; those of passes come pass by pass.
func TestShallowestErrors(t *testing.T) {
	good, none, late := pass(0, 0, 3), pass(150, 0, 0), pass(0, 0, 4)
	for _, c := range []struct {
		name string
		way  []api.Pass
		e    api.Errno
	}{
		{"no passes", nil, api.ErrForm}, {"no passes", []api.Pass{}, api.ErrForm},
		{"the most passes", slices.Repeat([]api.Pass{good}, 60), api.OK}, {"too many passes", slices.Repeat([]api.Pass{good}, 61), api.ErrLong}, {"too many bad passes", slices.Repeat([]api.Pass{none}, 61), api.ErrLong},
		{"no place", []api.Pass{good, none}, api.ErrNone}, {"no place", []api.Pass{pass(-1, 0, 0)}, api.ErrNone}, {"no place", []api.Pass{pass(math.MaxInt, 0, 0)}, api.ErrNone}, {"no place", []api.Pass{pass(math.MinInt, 0, 0)}, api.ErrNone},
		{"place before hours", []api.Pass{pass(150, 3, 2)}, api.ErrNone}, {"place first", []api.Pass{none, late}, api.ErrNone}, {"hours first", []api.Pass{late, none}, api.ErrRange}, {"hours first", []api.Pass{good, late, none}, api.ErrRange}, {"place first", []api.Pass{good, none, late}, api.ErrNone},
	} {
		r, sides := example()
		b, p, h, e := river.Shallowest(r, sides, c.way)
		if e != c.e || e != api.OK && (b != to(0, 0) || p != 0 || h != 0) {
			t.Errorf("%s: %v, pass %d, hour %d, error %d, want %d", c.name, b, p, h, e, c.e)
		}
	}
	for _, c := range boundsCases(0, 3) {
		r, sides := example()
		b, p, h, e := river.Shallowest(r, sides, []api.Pass{good, {Place: 120, Hours: c.b}})
		if e != errorUnless(c.ok, api.ErrRange) || e != api.OK && (b != to(0, 0) || p != 0 || h != 0) {
			t.Errorf("hours %v: %v, pass %d, hour %d, error %d", c.b, b, p, h, e)
		}
	}
}
