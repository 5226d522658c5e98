package hull_test

import (
	"math"
	"math/rand"
	"slices"
	"testing"

	"thalweg/api"
	"thalweg/hull"
)

// marked returns a hull whose sections are told apart by their Light, with a hold for each that is not 0.
func marked(lot int, lights ...int) api.Hull {
	h := api.Hull{Lot: lot}
	for _, light := range lights {
		x := section()
		x.Light = light
		if light > 0 {
			x.Holds = []api.HullHold{hold(light, 2*light)}
		}
		h.Sections = append(h.Sections, x)
	}
	return h
}

// P2.7: a hull without some sections.
func TestCut(t *testing.T) {
	for _, c := range []struct {
		from, to int
		left     []int
	}{
		{0, 1, []int{2, 0, 3, 4}}, {0, 4, []int{4}}, {1, 2, []int{1, 0, 3, 4}}, {1, 3, []int{1, 3, 4}}, {1, 4, []int{1, 4}}, {1, 5, []int{1}}, {2, 3, []int{1, 2, 3, 4}}, {4, 5, []int{1, 2, 0, 3}}, {2, 5, []int{1, 2}},
	} {
		if h, e := hull.Cut(marked(7, 1, 2, 0, 3, 4), c.from, c.to); !sameHull(h, marked(7, c.left...)) || e != api.OK {
			t.Errorf("%d to %d: %v, error %d, want the sections %v", c.from, c.to, h, e, c.left)
		}
	}
}

// P2.7: the example 4 of the chapter.
func TestCutExample(t *testing.T) {
	h := must[api.Hull](t)(hull.Cut(example(), 0, 1))
	if v, e := hull.Volume(h, 150); v != 450 || e != api.OK {
		t.Error("at 150:", v, e)
	}
	if v, e := hull.Volume(h, 300); v != 900 || e != api.OK {
		t.Error("at 300:", v, e)
	}
	if v, e := hull.Volume(h, 301); v != 0 || e != api.ErrRange {
		t.Error("at 301:", v, e)
	}
}

// P2.7: the errors of Cut.
func TestCutErrors(t *testing.T) {
	for _, c := range []struct {
		from, to int
		e        api.Errno
	}{
		{0, 1, api.OK}, {1, 2, api.OK}, {0, 2, api.ErrForm},
		{0, 0, api.ErrRange}, {1, 1, api.ErrRange}, {2, 2, api.ErrRange}, {1, 0, api.ErrRange}, {2, 1, api.ErrRange}, {0, 3, api.ErrRange}, {1, 3, api.ErrRange}, {2, 3, api.ErrRange}, {3, 4, api.ErrRange}, {-1, 0, api.ErrRange}, {-1, 1, api.ErrRange}, {-1, 2, api.ErrRange}, {-1, 3, api.ErrRange}, {-2, -1, api.ErrRange},
		{math.MinInt, math.MaxInt, api.ErrRange}, {math.MaxInt, math.MinInt, api.ErrRange}, {0, math.MaxInt, api.ErrRange}, {math.MinInt, 1, api.ErrRange},
	} {
		a := goodArgs()
		a.from, a.to = c.from, c.to
		wantErrors(t, "Cut", a, c.e, "Cut")
	}
	if h, e := hull.Cut(marked(1, 1), 0, 1); !isEmpty(h) || e != api.ErrForm {
		t.Error("the only section:", h, e)
	}
}

// P2.7: the sections of both hulls, in their order.
func TestWeld(t *testing.T) {
	for _, c := range []struct{ a, b []int }{{[]int{1}, []int{2}}, {[]int{1, 2}, []int{3}}, {[]int{3}, []int{2, 1}}, {[]int{0, 1, 2}, []int{0, 4}}, {[]int{1}, []int{1}}} {
		if h, e := hull.Weld(marked(7, c.a...), marked(7, c.b...)); !sameHull(h, marked(7, slices.Concat(c.a, c.b)...)) || e != api.OK {
			t.Errorf("%v and %v: %v, error %d", c.a, c.b, h, e)
		}
	}
}

// parts returns a hull of some sections of a length, the first one with some holds.
func parts(sections, length, holds int) api.Hull {
	h := api.Hull{Lot: 100}
	for i := range sections {
		x := section()
		x.Length = length
		if i == 0 {
			x.Holds = slices.Repeat([]api.HullHold{hold(0, 1)}, holds)
		}
		h.Sections = append(h.Sections, x)
	}
	return h
}

// P2.7: the errors of Weld, in their order.
func TestWeldErrors(t *testing.T) {
	other, bad := parts(3, 10, 1), parts(1, 10, 5)
	other.Lot = 99
	for _, c := range []struct {
		name string
		a, b api.Hull
		e    api.Errno
	}{
		{"the most sections", parts(1, 10, 1), parts(5, 10, 1), api.OK}, {"the most sections", parts(3, 10, 0), parts(3, 10, 0), api.OK}, {"too many sections", parts(3, 10, 0), parts(4, 10, 0), api.ErrFull}, {"too many sections", parts(6, 10, 0), parts(1, 10, 0), api.ErrFull}, {"too many sections", parts(6, 10, 0), parts(6, 10, 0), api.ErrFull},
		{"the most holds", parts(1, 10, 2), parts(1, 10, 2), api.OK}, {"the most holds", parts(1, 10, 0), parts(1, 10, 4), api.OK}, {"too many holds", parts(1, 10, 2), parts(1, 10, 3), api.ErrFull}, {"too many holds", parts(1, 10, 4), parts(1, 10, 1), api.ErrFull},
		{"the greatest length", parts(1, 100, 0), parts(1, 100, 0), api.OK}, {"the greatest length", parts(3, 50, 0), parts(1, 50, 0), api.OK}, {"too long", parts(1, 100, 0), parts(2, 51, 0), api.ErrFull}, {"too long", parts(2, 100, 0), parts(1, 1, 0), api.ErrFull},
		{"other lots", parts(1, 10, 1), other, api.ErrState}, {"other lots, and too many sections", parts(6, 10, 4), other, api.ErrState}, {"other lots, and too long", parts(2, 100, 4), other, api.ErrState},
		{"not valid", bad, parts(1, 10, 1), api.ErrArg}, {"not valid, and other lots", bad, other, api.ErrArg}, {"not valid, and too long", bad, parts(2, 100, 4), api.ErrArg}, {"none", api.Hull{}, other, api.ErrArg}, {"both not valid", bad, bad, api.ErrArg},
	} {
		for _, pair := range [][2]api.Hull{{c.a, c.b}, {c.b, c.a}} {
			if h, e := hull.Weld(pair[0], pair[1]); e != c.e || isEmpty(h) != (e != api.OK) {
				t.Errorf("%s: %v, error %d, want %d", c.name, h, e, c.e)
			}
		}
	}
}

// P2.7: the holds of a welded hull are numbered section by section.
func TestLoadOfWeldedHull(t *testing.T) {
	h := must[api.Hull](t)(hull.Weld(marked(1, 3), marked(1, 0, 5, 1)))
	for _, c := range []struct {
		load []int
		e    api.Errno
	}{{[]int{6, 10, 2}, api.OK}, {[]int{7, 0, 0}, api.ErrRange}, {[]int{0, 11, 0}, api.ErrRange}, {[]int{0, 0, 3}, api.ErrRange}, {[]int{0, 0}, api.ErrForm}} {
		if _, e := hull.Float(h, c.load, water); e != c.e {
			t.Errorf("%v: error %d, want %d", c.load, e, c.e)
		}
	}
}

// plate returns a plate.
func plate(thick, wear api.Bounds) api.HullPlate { return api.HullPlate{Thick: thick, Wear: wear} }

// P2.8: the example 5 of the chapter, and edges of the years of a plate.
func TestLife(t *testing.T) {
	first, second := plate(to(800, 820), to(10, 15)), plate(to(700, 700), to(0, 4))
	for _, c := range []struct {
		name   string
		plates []api.HullPlate
		least  int
		want   api.Bounds
		plate  int
	}{
		{"the example", []api.HullPlate{first, second}, 600, to(13, 22), 0}, {"the second one alone", []api.HullPlate{second}, 600, to(25, 1000), 0}, {"the other order", []api.HullPlate{second, first}, 600, to(13, 22), 1},
		{"the first one still fails first", []api.HullPlate{first, second}, 650, to(10, 17), 0}, {"the second one fails first", []api.HullPlate{first, second}, 690, to(2, 13), 1},
		{"worn off at once", []api.HullPlate{plate(to(599, 599), to(1, 2))}, 600, to(-1, -1), 0}, {"possibly worn off at once", []api.HullPlate{plate(to(599, 604), to(1, 2))}, 600, to(-1, 4), 0}, {"just thick enough", []api.HullPlate{plate(to(600, 600), to(1, 2))}, 600, to(0, 0), 0},
		{"worn off at once without wear", []api.HullPlate{plate(to(599, 600), to(0, 0))}, 600, to(-1, 1000), 0}, {"just thick enough without wear", []api.HullPlate{plate(to(600, 600), to(0, 0))}, 600, to(1000, 1000), 0},
		{"just a year", []api.HullPlate{plate(to(607, 607), to(7, 7))}, 600, to(1, 1), 0}, {"just not a year", []api.HullPlate{plate(to(606, 606), to(7, 7))}, 600, to(0, 0), 0}, {"a year and more", []api.HullPlate{plate(to(613, 613), to(7, 7))}, 600, to(1, 1), 0}, {"just two years", []api.HullPlate{plate(to(614, 614), to(7, 7))}, 600, to(2, 2), 0},
		{"the most years", []api.HullPlate{plate(to(1000, 1000), to(1, 1))}, 0, to(1000, 1000), 0}, {"more than the most years", []api.HullPlate{plate(to(1001, 100000), to(1, 1))}, 0, to(1000, 1000), 0}, {"a year less", []api.HullPlate{plate(to(999, 1001), to(1, 1))}, 0, to(999, 1000), 0},
		{"the first of equal ones", []api.HullPlate{plate(to(50, 90), to(1, 1)), plate(to(20, 80), to(1, 1)), plate(to(40, 70), to(1, 2)), plate(to(30, 30), to(1, 1))}, 0, to(20, 30), 1}, {"both ends of others", []api.HullPlate{plate(to(60, 60), to(1, 1)), plate(to(40, 90), to(1, 1)), plate(to(50, 50), to(1, 1))}, 0, to(40, 50), 1},
		{"the first of those that last the longest", []api.HullPlate{plate(to(5000, 5000), to(1, 1)), plate(to(9000, 9000), to(0, 1))}, 0, to(1000, 1000), 0}, {"nothing", []api.HullPlate{{}}, 0, to(1000, 1000), 0}, {"nothing is not enough", []api.HullPlate{{}, {}}, 1, to(-1, -1), 0},
		{"the thickest", []api.HullPlate{plate(to(100000, 100000), to(1000, 1000))}, 0, to(100, 100), 0}, {"as thick as possible", []api.HullPlate{plate(to(100000, 100000), to(1000, 1000))}, 100000, to(0, 0), 0},
		{"the most plates", append(slices.Repeat([]api.HullPlate{first}, 49), plate(to(610, 611), to(1, 1))), 600, to(10, 11), 49},
	} {
		if years, n, e := hull.Life(c.plates, c.least); years != c.want || n != c.plate || e != api.OK {
			t.Errorf("%s: %v, plate %d, error %d, want %v, %d", c.name, years, n, e, c.want, c.plate)
		}
	}
}

// wantLifeError fails unless Life returns an error, or OK.
func wantLifeError(t *testing.T, name string, plates []api.HullPlate, least int, want api.Errno) {
	t.Helper()
	years, n, e := hull.Life(plates, least)
	if e != want || e != api.OK && (years != to(0, 0) || n != 0) {
		t.Errorf("%s: %v, plate %d, error %d, want %d", name, years, n, e, want)
	}
}

// P2.8: the errors of Life, in their order.
func TestLifeErrors(t *testing.T) {
	good, bad := plate(to(800, 820), to(10, 15)), plate(to(2, 1), to(0, 0))
	for _, c := range numberCases(0, api.MaxThick) {
		wantLifeError(t, "least", []api.HullPlate{good}, c.n, errorUnless(c.ok, api.ErrRange))
		wantLifeError(t, "no plates", nil, c.n, api.ErrForm)
		wantLifeError(t, "no plates", []api.HullPlate{}, c.n, api.ErrForm)
		wantLifeError(t, "too many plates", slices.Repeat([]api.HullPlate{good}, 51), c.n, api.ErrLong)
		wantLifeError(t, "too many bad plates", slices.Repeat([]api.HullPlate{bad}, 51), c.n, api.ErrLong)
		wantLifeError(t, "a bad plate", []api.HullPlate{good, bad}, c.n, api.ErrArg)
		wantLifeError(t, "a bad plate", []api.HullPlate{bad, good}, c.n, api.ErrArg)
	}
	for _, c := range boundsCases(0, api.MaxThick) {
		wantLifeError(t, "Thick", []api.HullPlate{plate(c.b, to(0, 0))}, 1, errorUnless(c.ok, api.ErrArg))
		wantLifeError(t, "Thick of the last plate", []api.HullPlate{good, plate(c.b, to(0, 0))}, 1, errorUnless(c.ok, api.ErrArg))
	}
	for _, c := range boundsCases(0, api.MaxWear) {
		wantLifeError(t, "Wear", []api.HullPlate{plate(to(5, 5), c.b)}, 1, errorUnless(c.ok, api.ErrArg))
		wantLifeError(t, "Wear of the last plate", []api.HullPlate{good, plate(to(5, 5), c.b)}, 1, errorUnless(c.ok, api.ErrArg))
	}
}

// randomPlates returns plates of which some wear off.
func randomPlates(g *rand.Rand) []api.HullPlate {
	var l []api.HullPlate
	for range 1 + g.Intn(4) {
		l = append(l, plate(some(g, 60, 300), some(g, 0, 6)))
	}
	return l
}

// yearsOf returns how many years all plates last in a truth, year by year.
func yearsOf(plates []api.HullPlate, least int) int {
	for y := range api.MaxHullYears + 1 {
		if slices.ContainsFunc(plates, func(x api.HullPlate) bool { return x.Thick.Low-y*x.Wear.Low < least }) {
			return y - 1
		}
	}
	return api.MaxHullYears
}

// P2.8, P2.14: the years are in the bounds in each truth, and both ends are true in one.
func TestLifeInTruths(t *testing.T) {
	g := rand.New(rand.NewSource(6))
	for range 500 {
		plates, least := randomPlates(g), 50+g.Intn(120)
		years, n, e := hull.Life(plates, least)
		must[api.Bounds](t)(years, e)
		truth := func(thick, wear func(api.Bounds) int) int {
			var l []api.HullPlate
			for _, x := range plates {
				a, b := thick(x.Thick), wear(x.Wear)
				l = append(l, plate(to(a, a), to(b, b)))
			}
			return yearsOf(l, least)
		}
		low, high := func(b api.Bounds) int { return b.Low }, func(b api.Bounds) int { return b.High }
		within := func(b api.Bounds) int { return one(g, b).Low }
		if want := to(truth(low, high), truth(high, low)); years != want {
			t.Fatalf("%v, least %d: %v, want %v", plates, least, years, want)
		}
		for range 5 {
			if y := truth(within, within); y < years.Low || y > years.High {
				t.Fatalf("%v, least %d: %d years, not in %v", plates, least, y, years)
			}
		}
		for i := range plates {
			alone, _, _ := hull.Life(plates[i:i+1], least)
			if alone.Low < years.Low || alone.Low == years.Low && i < n || i == n && alone.Low != years.Low {
				t.Fatalf("%v, least %d: the plate %d, but the plate %d lasts for %v", plates, least, n, i, alone)
			}
		}
		more, _, e := hull.Life(slices.Insert(slices.Clone(plates), g.Intn(len(plates)+1), randomPlates(g)[0]), least)
		if e != api.OK || more.Low > years.Low || more.High > years.High {
			t.Fatalf("%v, least %d: %v, and with a plate more %v, error %d", plates, least, years, more, e)
		}
	}
}
