package hull_test

import (
	"math/rand"
	"slices"
	"testing"

	"thalweg/api"
	"thalweg/hull"
	"thalweg/river"
)

// P2.4: the example 3 of the chapter, and more or less of each number.
func TestSafe(t *testing.T) {
	shallow, late := passage(), passage()
	shallow.Way = []api.Pass{pass(130, 0, 3), pass(120, 0, 2)}
	late.Way = []api.Pass{pass(130, 3, 3), pass(120, 1, 3), pass(120, 3, 3)}
	for _, c := range []struct {
		name string
		load []int
		keel int
		p    api.Passage
		want safe
	}{
		{"the example", []int{1, 1}, 20, passage(), safe{false, true, 0, 0}},
		{"the example, one lot", []int{0, 1}, 20, passage(), safe{true, true, 0, 0}},
		{"just surely", []int{0, 1}, 22, passage(), safe{true, true, 0, 0}}, {"just not surely", []int{0, 1}, 23, passage(), safe{false, true, 0, 0}},
		{"just possibly", []int{0, 1}, 52, passage(), safe{false, true, 0, 0}}, {"just not possibly", []int{0, 1}, 53, passage(), safe{false, false, 0, 0}},
		{"no keel", []int{2, 2}, 0, passage(), safe{false, true, 0, 0}}, {"the greatest keel", []int{0, 0}, api.MaxKeel, passage(), safe{false, false, 0, 0}},
		{"another pass and hour", []int{0, 1}, 41, shallow, safe{true, true, 1, 1}}, {"another pass and hour, not surely", []int{0, 1}, 42, shallow, safe{false, true, 1, 1}}, {"another pass and hour, not possibly", []int{0, 1}, 53, shallow, safe{false, false, 1, 1}},
		{"the first pass with its last hour", []int{0, 1}, 40, late, safe{true, true, 1, 3}},
	} {
		c.p.Keel = c.keel
		if got := mustSafe(t, example(), c.load, water, c.p); got != c.want {
			t.Errorf("%s: %v, want %v", c.name, got, c.want)
		}
	}
}

// P2.4: surely is decided by the deepest draft and the least water, possibly by the other ends.
func TestSafeByBounds(t *testing.T) {
	// The deep draft of the full example is 152 to 186.
	for _, c := range []struct {
		depth            api.Bounds
		surely, possibly bool
	}{
		{to(190, 190), true, true}, {to(190, 500), true, true}, {to(189, 190), false, true}, {to(189, 189), false, true}, {to(156, 156), false, true}, {to(155, 156), false, true}, {to(0, 156), false, true}, {to(155, 155), false, false}, {to(0, 155), false, false}, {to(0, 0), false, false}, {to(0, 1000), false, true},
	} {
		p := canal(c.depth)
		p.Keel = 4
		if got, want := mustSafe(t, example(), []int{4, 4}, to(900, 1100), p), (safe{c.surely, c.possibly, 0, 0}); got != want {
			t.Errorf("depth %v: %v, want %v", c.depth, got, want)
		}
	}
}

// P2.4: the deep draft counts, not the mean one.
func TestSafeByTheDeepEnd(t *testing.T) {
	// The mean draft is 100, the deep one 115.
	for _, c := range []struct {
		depth int
		want  bool
	}{{115, true}, {114, false}, {100, false}} {
		got := mustSafe(t, example(), []int{3, 1}, water, canal(to(c.depth, c.depth)))
		if got.surely != c.want || got.possibly != c.want {
			t.Errorf("depth %d: %v", c.depth, got)
		}
	}
}

// P2.4: Safe by Float and by river.Shallowest.
func TestSafeOfRivers(t *testing.T) {
	g := rand.New(rand.NewSource(3))
	var surely, possibly, never int
	for range 2000 {
		h, p, density := randomHull(g), randomPassage(g), randomDensity(g)
		load := randomLoad(g, h)
		f, e := hull.Float(h, load, density)
		if e != api.OK {
			if _, _, _, _, err := hull.Safe(h, load, density, p); err != e {
				t.Fatalf("%v, load %v: error %d, that of Float is %d", h, load, err, e)
			}
			continue
		}
		least, pass, hour, e := river.Shallowest(p.River, p.Sides, p.Way)
		must[api.Bounds](t)(least, e)
		want := safe{f.Deep.High+p.Keel <= least.Low, f.Deep.Low+p.Keel <= least.High, pass, hour}
		if got := mustSafe(t, h, load, density, p); got != want {
			t.Fatalf("%v, load %v, %v: %v, want %v", h, load, p, got, want)
		}
		switch {
		case want.surely:
			surely++
		case want.possibly:
			possibly++
		default:
			never++
		}
	}
	if min(surely, possibly, never) < 50 {
		t.Error("surely:", surely, "possibly:", possibly, "never:", never)
	}
}

// passageCase is a change of the example, and its error.
type passageCase struct {
	name   string
	change func(p *api.Passage)
	e      api.Errno
}

// passageCases returns changes with the errors of river.Shallowest, in their order.
func passageCases() []passageCase {
	long := make([]api.Bounds, api.MaxRiverHours+1)
	return []passageCase{
		{"no river", func(p *api.Passage) { p.River = api.River{} }, api.ErrArg},
		{"a bad reach", func(p *api.Passage) { p.River.Reaches[1].Length, p.Sides = 0, nil }, api.ErrArg},
		{"a bad shoal", func(p *api.Passage) { p.River.Shoals[0].Place, p.Way = 150, nil }, api.ErrArg},
		{"no forecast", func(p *api.Passage) { p.Sides, p.Way = nil, nil }, api.ErrForm},
		{"a forecast too short", func(p *api.Passage) { p.Sides[1] = p.Sides[1][1:] }, api.ErrForm},
		{"a forecast too long", func(p *api.Passage) { p.Sides, p.Way = [][]api.Bounds{long, long}, nil }, api.ErrLong},
		{"a bad forecast", func(p *api.Passage) { p.Sides[0][3], p.Way = to(2, 1), nil }, api.ErrArg},
		{"no passes", func(p *api.Passage) { p.Way = nil }, api.ErrForm},
		{"no passes", func(p *api.Passage) { p.Way = []api.Pass{} }, api.ErrForm},
		{"too many passes", func(p *api.Passage) { p.Way = slices.Repeat([]api.Pass{pass(150, 0, 0)}, api.MaxPasses+1) }, api.ErrLong},
		{"no place", func(p *api.Passage) { p.Way[1] = pass(150, 2, 1) }, api.ErrNone},
		{"no hour", func(p *api.Passage) { p.Way[1] = pass(120, 2, 4) }, api.ErrRange},
		{"no hour, then no place", func(p *api.Passage) { p.Way = []api.Pass{pass(120, -1, 0), pass(-1, 0, 0)} }, api.ErrRange},
	}
}

// P2.4, P2.5, P2.6: the errors of the way, after that of the Keel, which is after those of the hull and its load.
func TestPassageErrors(t *testing.T) {
	for _, c := range passageCases() {
		a := goodArgs()
		c.change(&a.p)
		wantErrors(t, c.name, a, c.e, "Safe", "Advise", "Later")
		a.p.Keel = -1
		wantErrors(t, c.name+", and a bad Keel", a, api.ErrRange, "Safe", "Advise", "Later")
		a.load = []int{4, 0}
		a.h.Sections[0].Trim, a.h.Sections[1].Trim = 1, 1
		wantErrors(t, c.name+", a bad Keel, and too deep", a, api.ErrFull, "Safe", "Later")
		wantErrors(t, c.name+", a bad Keel, and too deep with some load", a, api.ErrRange, "Advise")
		a.h.Sections[0].Light = api.MaxLight
		wantErrors(t, c.name+", a bad Keel, and too heavy", a, api.ErrRange, "Advise")
		a.p.Keel = 0
		wantErrors(t, c.name+", and too heavy", a, c.e, "Advise")
	}
}

// P2.4, P2.5, P2.6: the limits of the Keel.
func TestKeelErrors(t *testing.T) {
	for _, c := range numberCases(0, api.MaxKeel) {
		a := goodArgs()
		a.p = canal(to(1000, 1000))
		a.p.Keel = c.n
		wantErrors(t, "Keel", a, errorUnless(c.ok, api.ErrRange), "Safe", "Advise", "Later")
	}
}

// P2.4, P2.6: a hull that does not float has its error before that of the passage.
func TestSinkingErrors(t *testing.T) {
	a := goodArgs()
	a.h.Sections[0].Trim, a.h.Sections[1].Trim, a.load = 1, 1, []int{4, 0}
	wantErrors(t, "too deep", a, api.ErrFull, "Float", "Safe", "Later")
	a.p = api.Passage{Keel: -1}
	wantErrors(t, "too deep, and no passage", a, api.ErrFull, "Float", "Safe", "Later")
}

// hours returns bounds of single depths.
func hours(depths ...int) []api.Bounds {
	var l []api.Bounds
	for _, n := range depths {
		l = append(l, to(n, n))
	}
	return l
}

// P2.6: hour by hour.
func TestLater(t *testing.T) {
	// The deep draft with one lot is 58, with 2 of Keel 60.
	one, wide := []api.Pass{pass(0, 0, 0)}, []api.Pass{pass(0, 0, 2)}
	for _, c := range []struct {
		name   string
		depths []api.Bounds
		way    []api.Pass
		want   int
		e      api.Errno
	}{
		{"at once", hours(60, 0), one, 0, api.OK}, {"at once, and later too", hours(60, 60), one, 0, api.OK}, {"an hour later", hours(59, 60, 70), one, 1, api.OK}, {"the last hour", hours(10, 59, 0, 60), one, 3, api.OK}, {"never", hours(10, 59, 0, 59), one, 0, api.ErrNone}, {"no other hour", hours(59), one, 0, api.ErrNone}, {"a single hour", hours(60), one, 0, api.OK},
		{"a hour that starts later", hours(60, 60, 59, 60), []api.Pass{pass(0, 2, 2)}, 1, api.OK}, {"earlier does not help", hours(60, 60, 60, 59), []api.Pass{pass(0, 3, 3)}, 0, api.ErrNone},
		{"hours without a gap", hours(60, 59, 60, 60, 59, 60, 60, 60), wide, 5, api.OK}, {"the last hours", hours(59, 59, 59, 60, 60, 60), wide, 3, api.OK}, {"a hour too few", hours(59, 59, 59, 60, 60), wide, 0, api.ErrNone}, {"a shallow last hour", hours(60, 60, 59, 60, 60, 60), wide, 3, api.OK}, {"deeper after a shallower hour", hours(59, 0, 59, 60, 60, 60, 60), wide, 3, api.OK}, {"shallower and shallower", hours(59, 58, 57, 56, 60, 60, 60), wide, 4, api.OK},
		{"the Low of the depth", []api.Bounds{to(59, 99), to(60, 99)}, one, 1, api.OK}, {"only possibly", []api.Bounds{to(59, 99), to(0, 1000)}, one, 0, api.ErrNone},
		{"two passes", hours(60, 59, 60, 60, 59, 60), []api.Pass{pass(0, 0, 0), pass(0, 1, 1)}, 2, api.OK}, {"two passes, apart", hours(60, 60, 59, 60, 60, 59), []api.Pass{pass(0, 0, 0), pass(0, 2, 2)}, 1, api.OK}, {"two passes, by turns", hours(60, 59, 60, 59, 60, 59), []api.Pass{pass(0, 0, 0), pass(0, 1, 1)}, 0, api.ErrNone}, {"all passes are later", hours(59, 60, 60), []api.Pass{pass(0, 2, 2), pass(0, 0, 0)}, 0, api.ErrNone}, {"the last pass ends first", hours(60, 59, 60, 60), []api.Pass{pass(0, 1, 2), pass(0, 0, 0)}, 0, api.ErrNone}, {"the last pass ends first", hours(60, 59, 60, 60, 60), []api.Pass{pass(0, 1, 2), pass(0, 0, 0)}, 2, api.OK},
	} {
		p := canal(c.depths...)
		p.Way, p.Keel = c.way, 2
		if k, e := hull.Later(example(), []int{0, 1}, water, p); k != c.want || e != c.e {
			t.Errorf("%s: %d, error %d, want %d, error %d", c.name, k, e, c.want, c.e)
		}
	}
}

// P2.6: with the density as it is, the deepest draft counts.
func TestLaterByDensity(t *testing.T) {
	// The deep draft of the full example is 152 to 186.
	for _, c := range []struct {
		density api.Bounds
		want    int
		e       api.Errno
	}{{to(900, 1100), 3, api.OK}, {to(1000, 1100), 2, api.OK}, {to(1100, 1100), 1, api.OK}} {
		if k, e := hull.Later(example(), []int{4, 4}, c.density, canal(hours(151, 152, 167, 186)...)); k != c.want || e != c.e {
			t.Errorf("density %v: %d, error %d, want %d", c.density, k, e, c.want)
		}
	}
	if k, e := hull.Later(example(), []int{4, 4}, to(900, 1100), canal(hours(151, 152, 167, 185)...)); k != 0 || e != api.ErrNone {
		t.Error("never deep enough:", k, e)
	}
}

// P2.6: a forecast of the most hours, of which only the last one is deep enough.
func TestLaterInLongForecasts(t *testing.T) {
	p := canal(slices.Repeat(hours(57), api.MaxRiverHours)...)
	if k, e := hull.Later(example(), []int{0, 1}, water, p); k != 0 || e != api.ErrNone {
		t.Error("never:", k, e)
	}
	p.Sides[0][api.MaxRiverHours-1] = to(58, 58)
	if k, e := hull.Later(example(), []int{0, 1}, water, p); k != api.MaxRiverHours-1 || e != api.OK {
		t.Error("the last hour:", k, e)
	}
	p.Way = slices.Repeat(p.Way, api.MaxPasses)
	if k, e := hull.Later(example(), []int{0, 1}, water, p); k != api.MaxRiverHours-1 || e != api.OK {
		t.Error("the most passes:", k, e)
	}
}

// shifted returns a passage with all passes some hours later.
func shifted(p api.Passage, hours int) api.Passage {
	p.Way = slices.Clone(p.Way)
	for i, x := range p.Way {
		p.Way[i] = pass(x.Place, x.Hours.Low+hours, x.Hours.High+hours)
	}
	return p
}

// firstSafe returns what Later returns, by Safe for each number of hours.
func firstSafe(h api.Hull, load []int, density api.Bounds, p api.Passage) (int, api.Errno) {
	if _, _, _, _, e := hull.Safe(h, load, density, p); e != api.OK {
		return 0, e
	}
	for k := range len(p.Sides[0]) {
		if surely, _, _, _, e := hull.Safe(h, load, density, shifted(p, k)); surely && e == api.OK {
			return k, api.OK
		}
	}
	return 0, api.ErrNone
}

// P2.6, P2.12: Later by Safe for each number of hours; before the one that is returned the hull is not surely safe.
func TestLaterBySafe(t *testing.T) {
	g := rand.New(rand.NewSource(4))
	var later, never int
	for range 4000 {
		h, p, density := randomHull(g), randomPassage(g), randomDensity(g)
		load := randomLoad(g, h)
		want, err := firstSafe(h, load, density, p)
		if k, e := hull.Later(h, load, density, p); k != want || e != err {
			t.Fatalf("%v, load %v, %v: %d, error %d, want %d, error %d", h, load, p, k, e, want, err)
		}
		if err == api.ErrNone {
			never++
		}
		if want > 0 {
			later++
		}
	}
	if min(later, never) < 50 {
		t.Error("later:", later, "never:", never)
	}
}
