package river_test

import (
	"math/rand"
	"slices"
	"testing"

	"thalweg/api"
	"thalweg/river"
)

// skyHour returns an hour of a sky.
func skyHour(rain, heat api.Bounds) api.SkyHour { return api.SkyHour{Rain: rain, Heat: heat} }

// land returns the catch of the document's example 5.
func land() api.Catch { return api.Catch{Area: 10, Percent: 50, Melt: 2, Snow: to(100, 150)} }

// P1.2: what melts and runs off, hour by hour.
func TestRunoff(t *testing.T) {
	none := to(0, 0)
	for _, c := range []struct {
		name string
		land api.Catch
		sky  []api.SkyHour
		want []api.Bounds
	}{
		{"no hours", land(), nil, nil},
		{"the example", land(), []api.SkyHour{skyHour(to(200, 300), to(10, 40)), skyHour(to(200, 300), to(10, 40))}, []api.Bounds{to(11000, 19000), to(11000, 19000)}},
		{"what is left", land(), []api.SkyHour{skyHour(none, to(10, 40)), skyHour(none, to(10, 40)), skyHour(none, to(10, 40)), skyHour(none, to(50, 60))}, []api.Bounds{to(1000, 4000), to(1000, 4000), to(0, 4000), to(0, 4500)}},
		{"all of it", land(), []api.SkyHour{skyHour(none, to(50, 75)), skyHour(none, to(1, 500)), skyHour(none, to(500, 500))}, []api.Bounds{to(5000, 7500), to(0, 2500), to(0, 2400)}},
		{"frost", land(), []api.SkyHour{skyHour(to(5, 6), to(-20, -1)), skyHour(none, to(-500, 0)), skyHour(none, to(-3, 10))}, []api.Bounds{to(250, 300), none, to(0, 1000)}},
		{"frost keeps the snow", land(), []api.SkyHour{skyHour(none, to(-500, -500)), skyHour(none, to(500, 500))}, []api.Bounds{none, to(5000, 7500)}},
		{"no snow", api.Catch{Area: 10, Percent: 50, Melt: 2}, []api.SkyHour{skyHour(to(1, 2), to(500, 500))}, []api.Bounds{to(50, 100)}},
		{"no melting", api.Catch{Area: 10, Percent: 50, Snow: to(5, 9)}, []api.SkyHour{skyHour(to(1, 2), to(500, 500))}, []api.Bounds{to(50, 100)}},
		{"snow that may be", api.Catch{Area: 1, Percent: 10, Melt: 1, Snow: to(0, 7)}, []api.SkyHour{skyHour(none, to(3, 5)), skyHour(none, to(3, 5)), skyHour(none, to(3, 5))}, []api.Bounds{to(0, 5), to(0, 4), to(0, 1)}},
		{"rounded", api.Catch{Area: 3, Percent: 1}, []api.SkyHour{skyHour(to(1, 1), none), skyHour(to(4, 4), none), skyHour(to(10, 10), none), skyHour(to(0, 7), none)}, []api.Bounds{to(0, 1), to(1, 2), to(3, 3), to(0, 3)}},
		{"no land", api.Catch{Percent: 100, Melt: 100, Snow: to(9, 9)}, []api.SkyHour{skyHour(to(9, 9), to(9, 9))}, []api.Bounds{none}},
		{"nothing runs off", api.Catch{Area: 10000, Melt: 100, Snow: to(9, 9)}, []api.SkyHour{skyHour(to(9, 9), to(9, 9))}, []api.Bounds{none}},
		{"the most", api.Catch{Area: 10000, Percent: 100, Melt: 100, Snow: to(1000000, 1000000)}, []api.SkyHour{skyHour(to(20000, 20000), to(500, 500))}, []api.Bounds{to(7000000000, 7000000000)}},
	} {
		if l, e := river.Runoff(c.land, c.sky); !slices.Equal(l, c.want) || e != api.OK {
			t.Errorf("%s: %v, error %d, want %v", c.name, l, e, c.want)
		}
	}
}

// wantRunoffError fails unless Runoff returns an error, or OK.
func wantRunoffError(t *testing.T, name string, c api.Catch, sky []api.SkyHour, want api.Errno) {
	t.Helper()
	l, e := river.Runoff(c, sky)
	if e != want || e != api.OK && len(l) != 0 || e == api.OK && len(l) != len(sky) {
		t.Errorf("%s: %d hours, error %d, want %d", name, len(l), e, want)
	}
}

// P1.2: the limits of the land and of the sky, and their order.
func TestRunoffErrors(t *testing.T) {
	fields := []struct {
		name string
		high int
		set  func(c *api.Catch, n int)
	}{
		{"Area", api.MaxArea, func(c *api.Catch, n int) { c.Area = n }},
		{"Percent", 100, func(c *api.Catch, n int) { c.Percent = n }},
		{"Melt", api.MaxMelt, func(c *api.Catch, n int) { c.Melt = n }},
	}
	long, bad := make([]api.SkyHour, api.MaxRiverHours+1), []api.SkyHour{skyHour(to(1, 0), to(0, 0))}
	for _, f := range fields {
		for _, n := range numberCases(0, f.high) {
			c := land()
			f.set(&c, n.n)
			wantRunoffError(t, f.name, c, make([]api.SkyHour, 2), errorUnless(n.ok, api.ErrArg))
			if !n.ok {
				wantRunoffError(t, f.name+", too many hours", c, long, api.ErrArg)
			}
		}
	}
	for _, b := range boundsCases(0, api.MaxSnow) {
		c := land()
		c.Snow = b.b
		wantRunoffError(t, "Snow", c, nil, errorUnless(b.ok, api.ErrArg))
		if !b.ok {
			wantRunoffError(t, "Snow, too many hours", c, long, api.ErrArg)
		}
	}
	for _, hour := range []int{0, 2} {
		for _, b := range boundsCases(0, api.MaxRain) {
			sky := make([]api.SkyHour, 3)
			sky[hour].Rain = b.b
			wantRunoffError(t, "Rain", land(), sky, errorUnless(b.ok, api.ErrArg))
		}
		for _, b := range boundsCases(-api.MaxHeat, api.MaxHeat) {
			sky := make([]api.SkyHour, 3)
			sky[hour].Heat = b.b
			wantRunoffError(t, "Heat", land(), sky, errorUnless(b.ok, api.ErrArg))
		}
	}
	wantRunoffError(t, "the most hours", land(), long[1:], api.OK)
	wantRunoffError(t, "too many hours", land(), long, api.ErrLong)
	wantRunoffError(t, "too many hours, one of them bad", land(), append(slices.Clone(long), bad...), api.ErrLong)
}

// trueRunoff returns ten times the runoff of a truth in each hour, and what is left of the snow.
func trueRunoff(c api.Catch, snow int, rain, heat []int) (l []int, left int) {
	for hour := range rain {
		melt := min(c.Melt*max(heat[hour], 0), snow)
		snow -= melt
		l = append(l, c.Area*(rain[hour]+melt)*c.Percent)
	}
	return l, snow
}

// truths returns all truths of bounds.
func truths(l []api.Bounds) [][]int {
	all := [][]int{nil}
	for _, b := range l {
		var next [][]int
		for _, x := range all {
			for n := b.Low; n <= b.High; n++ {
				next = append(next, append(slices.Clone(x), n))
			}
		}
		all = next
	}
	return all
}

// runoffEnds returns the least and the greatest runoff of all truths in each hour, by trying all of them.
func runoffEnds(c api.Catch, rain, heat []api.Bounds) []api.Bounds {
	var ends []api.Bounds
	for _, x := range truths(append(append([]api.Bounds{c.Snow}, rain...), heat...)) {
		l, _ := trueRunoff(c, x[0], x[1:1+len(rain)], x[1+len(rain):])
		for hour, n := range l {
			if hour == len(ends) {
				ends = append(ends, to(n, n))
			}
			ends[hour] = to(min(ends[hour].Low, n), max(ends[hour].High, n))
		}
	}
	for i, b := range ends {
		ends[i] = to(b.Low/10, (b.High+9)/10)
	}
	return ends
}

// P1.2, P1.10: the bounds are those of all truths, and no wider.
func TestRunoffOfAllTruths(t *testing.T) {
	g := rand.New(rand.NewSource(1))
	for range 300 {
		c := api.Catch{Area: 1 + g.Intn(7), Percent: g.Intn(101), Melt: g.Intn(4), Snow: some(g, 0, 9)}
		var sky []api.SkyHour
		var rain, heat []api.Bounds
		for range 3 {
			x := skyHour(some(g, 0, 2), some(g, -2, 3))
			sky, rain, heat = append(sky, x), append(rain, x.Rain), append(heat, x.Heat)
		}
		want := runoffEnds(c, rain, heat)
		if l := must[[]api.Bounds](t)(river.Runoff(c, sky)); !slices.Equal(l, want) {
			t.Fatalf("%v %v: %v, want %v", c, sky, l, want)
		}
	}
}

// P1.11: with narrower bounds no runoff is wider.
func TestRunoffNarrower(t *testing.T) {
	g := rand.New(rand.NewSource(2))
	for range 300 {
		c := api.Catch{Area: g.Intn(50), Percent: g.Intn(101), Melt: g.Intn(10), Snow: some(g, 0, 500)}
		d := c
		d.Snow = narrower(g, c.Snow)
		var wide, narrow []api.SkyHour
		for range 8 {
			x := skyHour(some(g, 0, 90), some(g, -20, 30))
			wide, narrow = append(wide, x), append(narrow, skyHour(narrower(g, x.Rain), narrower(g, x.Heat)))
		}
		a, b := must[[]api.Bounds](t)(river.Runoff(c, wide)), must[[]api.Bounds](t)(river.Runoff(d, narrow))
		for hour := range a {
			if !contains(a[hour], b[hour]) {
				t.Fatalf("hour %d: %v is not in %v", hour, b[hour], a[hour])
			}
		}
	}
}

// P1.12: in a truth, no more snow melts than there is at first.
func TestNoMoreSnowMelts(t *testing.T) {
	g := rand.New(rand.NewSource(3))
	for range 300 {
		snow := g.Intn(200)
		// With one square kilometer and 10 percent the runoff is the melt.
		c := api.Catch{Area: 1, Percent: 10, Melt: g.Intn(5), Snow: to(snow, snow)}
		sky := make([]api.SkyHour, 12)
		heat := make([]int, len(sky))
		for hour := range sky {
			heat[hour] = g.Intn(30) - 8
			sky[hour].Heat = to(heat[hour], heat[hour])
		}
		melt := 0
		for _, b := range must[[]api.Bounds](t)(river.Runoff(c, sky)) {
			melt += b.High
		}
		if _, left := trueRunoff(c, snow, make([]int, len(sky)), heat); melt != snow-left || melt > snow {
			t.Fatalf("%d of %d melt, and %d are left", melt, snow, left)
		}
	}
}
