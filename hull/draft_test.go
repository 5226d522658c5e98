package hull_test

import (
	"math"
	"math/rand"
	"slices"
	"testing"

	"thalweg/api"
	"thalweg/hull"
)

// trueVolume returns the greatest volume that is not above the line between two rows.
func trueVolume(curve []api.HullRow, draft int) int {
	i := 1
	for curve[i].Draft < draft {
		i++
	}
	a, b := curve[i-1], curve[i]
	volume := a.Volume
	for (volume+1-a.Volume)*(b.Draft-a.Draft) <= (draft-a.Draft)*(b.Volume-a.Volume) {
		volume++
	}
	return volume
}

// limitOf returns the limit of a hull.
func limitOf(h api.Hull) int {
	limit := math.MaxInt
	for _, x := range h.Sections {
		limit = min(limit, x.Curve[len(x.Curve)-1].Draft)
	}
	return limit
}

// volumeOf returns the volume of a hull at a draft.
func volumeOf(h api.Hull, draft int) int {
	volume := 0
	for _, x := range h.Sections {
		volume += trueVolume(x.Curve, draft)
	}
	return volume
}

// massOf returns the mass of a loaded hull.
func massOf(h api.Hull, load []int) int {
	mass := h.Lot * sum(load)
	for _, x := range h.Sections {
		mass += x.Light
	}
	return mass
}

// momentOf returns the moment of a loaded hull.
func momentOf(h api.Hull, load []int) int {
	length, about := 0, 0 // about is the moment about the fore end
	for _, x := range h.Sections {
		about += x.Light * (2*length + x.Length)
		length += x.Length
	}
	_, at := holdsOf(h)
	for i, lots := range load {
		about += 2 * at[i] * h.Lot * lots
	}
	return about - length*massOf(h, load)
}

// draftsAt returns both drafts of a loaded hull at a density, and whether it floats.
func draftsAt(h api.Hull, load []int, density int) (mean, deep int, floats bool) {
	trim := 0
	for _, x := range h.Sections {
		trim += x.Trim
	}
	limit, need := limitOf(h), (massOf(h, load)*1000+density-1)/density
	for mean <= limit && volumeOf(h, mean) < need {
		mean++
	}
	moment := momentOf(h, load)
	deep = mean + (max(moment, -moment)+4*trim-1)/(4*trim)
	return mean, deep, deep <= limit
}

// floatOf returns what Float returns, by each density.
func floatOf(h api.Hull, load []int, density api.Bounds) (api.HullFloat, api.Errno) {
	var f api.HullFloat
	for d := density.Low; d <= density.High; d++ {
		mean, deep, floats := draftsAt(h, load, d)
		if !floats {
			return api.HullFloat{}, api.ErrFull
		}
		if d == density.Low {
			f.Mean, f.Deep = to(mean, mean), to(deep, deep)
		}
		f.Mean = to(min(f.Mean.Low, mean), max(f.Mean.High, mean))
		f.Deep = to(min(f.Deep.Low, deep), max(f.Deep.High, deep))
	}
	switch moment := momentOf(h, load); {
	case moment < 0:
		f.Head = -1
	case moment > 0:
		f.Head = 1
	}
	return f, api.OK
}

// P2.2: the examples of the chapter, the rows of a curve, and what is between them.
func TestVolume(t *testing.T) {
	steep := api.Hull{Lot: 1, Sections: []api.HullSection{{Length: 1, Trim: 1, Curve: rows(0, 0, 3, 10, 10, 11, 11, 100)}}}
	shallow := example()
	shallow.Sections[1].Curve = rows(0, 0, 7, 5)
	shallow.Sections[0].Curve = rows(0, 0, 3, 2, 9, 7)
	for _, c := range []struct {
		name  string
		h     api.Hull
		draft int
		want  int
		e     api.Errno
	}{
		{"the example", example(), 150, 900, api.OK}, {"a row", example(), 100, 600, api.OK}, {"before a row", example(), 99, 594, api.OK}, {"after a row", example(), 101, 606, api.OK},
		{"nothing", example(), 0, 0, api.OK}, {"the limit", example(), 300, 1800, api.OK}, {"beyond the limit", example(), 301, 0, api.ErrRange}, {"below 0", example(), -1, 0, api.ErrRange},
		{"rounded down", steep, 1, 3, api.OK}, {"rounded down", steep, 2, 6, api.OK}, {"a row", steep, 3, 10, api.OK}, {"a flat part", steep, 4, 10, api.OK}, {"a flat part", steep, 9, 10, api.OK}, {"a row", steep, 10, 11, api.OK}, {"the last row", steep, 11, 100, api.OK}, {"beyond the last row", steep, 12, 0, api.ErrRange},
		// 2/3 and 5/7, and 5 1/3 and 4 2/7: each section is rounded on its own.
		{"both rounded", shallow, 1, 0, api.OK}, {"both rounded", shallow, 2, 2, api.OK}, {"both rounded", shallow, 6, 8, api.OK}, {"the lesser limit", shallow, 7, 10, api.OK}, {"beyond the lesser limit", shallow, 8, 0, api.ErrRange}, {"within the greater limit", shallow, 9, 0, api.ErrRange},
	} {
		if v, e := hull.Volume(c.h, c.draft); v != c.want || e != c.e {
			t.Errorf("%s: draft %d: %d, error %d, want %d, error %d", c.name, c.draft, v, e, c.want, c.e)
		}
	}
	shallow.Sections[0], shallow.Sections[1] = shallow.Sections[1], shallow.Sections[0]
	if v, e := hull.Volume(shallow, 8); v != 0 || e != api.ErrRange {
		t.Error("the lesser limit is that of the first section:", v, e)
	}
}

// P2.2, P2.3: the greatest limit, volume and mass that a hull can have.
func TestGreatestHull(t *testing.T) {
	x := api.HullSection{Length: 33, Light: api.MaxLight, Trim: api.MaxTrim, Curve: rows(0, 0, api.MaxDraft, api.MaxHullVolume), Holds: []api.HullHold{hold(0, api.MaxHoldLots)}}
	h := api.Hull{Lot: api.MaxLot, Sections: slices.Repeat([]api.HullSection{x}, api.MaxSections)}
	h.Sections[4].Holds, h.Sections[5].Holds = nil, nil
	for _, c := range []struct {
		draft, want int
		e           api.Errno
	}{{api.MaxDraft, 600000, api.OK}, {api.MaxDraft - 1, 599400, api.OK}, {1, 600, api.OK}, {api.MaxDraft + 1, 0, api.ErrRange}} {
		if v, e := hull.Volume(h, c.draft); v != c.want || e != c.e {
			t.Errorf("draft %d: %d, error %d, want %d, error %d", c.draft, v, e, c.want, c.e)
		}
	}
	// The moment is 20000 * (-198 - 132 - 66) = -7920000, and 2400000 make a centimeter.
	if f, e := hull.Float(h, []int{20, 20, 20, 20}, water); f != (api.HullFloat{Mean: to(234, 234), Deep: to(238, 238), Head: -1}) || e != api.OK {
		t.Error("full:", f, e)
	}
	for i := range h.Sections {
		h.Sections[i].Curve = rows(0, 0, api.MaxDraft, 23334)
	}
	if f, e := hull.Float(h, []int{20, 20, 20, 19}, water); f.Mean != to(993, 993) || f.Deep != to(997, 997) || e != api.OK {
		t.Error("nearly to the limit:", f, e)
	}
	if f, e := hull.Float(h, []int{20, 20, 20, 20}, water); f != (api.HullFloat{}) || e != api.ErrFull {
		t.Error("beyond the limit:", f, e)
	}
}

// P2.2: the errors of Volume.
func TestVolumeErrors(t *testing.T) {
	for _, c := range numberCases(0, 300) {
		a := goodArgs()
		a.draft = c.n
		wantErrors(t, "draft", a, errorUnless(c.ok, api.ErrRange), "Volume")
	}
}

// P2.2: the volume is the sum of what each section displaces.
func TestVolumeOfSections(t *testing.T) {
	g := rand.New(rand.NewSource(1))
	for range 300 {
		h := randomHull(g)
		for draft := range limitOf(h) + 1 {
			if v := must[int](t)(hull.Volume(h, draft)); v != volumeOf(h, draft) {
				t.Fatalf("%v: draft %d: %d, want %d", h, draft, v, volumeOf(h, draft))
			}
		}
		if v, e := hull.Volume(h, limitOf(h)+1); v != 0 || e != api.ErrRange {
			t.Fatalf("%v: beyond its limit: %d, error %d", h, v, e)
		}
	}
}

// P2.3: the examples of the chapter, and edges of what is rounded.
func TestFloat(t *testing.T) {
	for _, c := range []struct {
		name    string
		load    []int
		density api.Bounds
		want    api.HullFloat
	}{
		{"the example 1", []int{2, 2}, water, api.HullFloat{Mean: to(100, 100), Deep: to(100, 100)}},
		{"the example 1, by density", []int{2, 2}, to(900, 1000), api.HullFloat{Mean: to(100, 112), Deep: to(100, 112)}},
		{"the example 2", []int{3, 1}, water, api.HullFloat{Mean: to(100, 100), Deep: to(115, 115), Head: -1}},
		{"the other end", []int{1, 3}, water, api.HullFloat{Mean: to(100, 100), Deep: to(115, 115), Head: 1}},
		{"the example 3", []int{1, 1}, water, api.HullFloat{Mean: to(67, 67), Deep: to(67, 67)}},
		{"the example 3, one lot", []int{0, 1}, water, api.HullFloat{Mean: to(50, 50), Deep: to(58, 58), Head: 1}},
		{"empty", []int{0, 0}, water, api.HullFloat{Mean: to(34, 34), Deep: to(34, 34)}},
		{"full", []int{4, 4}, water, api.HullFloat{Mean: to(167, 167), Deep: to(167, 167)}},
		{"full, by density", []int{4, 4}, to(900, 1100), api.HullFloat{Mean: to(152, 186), Deep: to(152, 186)}},
		{"both by density", []int{4, 1}, to(950, 1050), api.HullFloat{Mean: to(112, 123), Deep: to(135, 146), Head: -1}},
	} {
		f, e := hull.Float(example(), c.load, c.density)
		if f != c.want || e != api.OK {
			t.Errorf("%s: %v, error %d, want %v", c.name, f, e, c.want)
		}
	}
}

// P2.3: a hull of a single section, with the masses and places of what is in it.
func TestFloatOfSection(t *testing.T) {
	for _, c := range []struct {
		name  string
		light int
		trim  int
		at    int
		lots  int
		want  api.HullFloat
	}{
		// The section is 9 meters long: its middle is 9 half meters from each end. A draft of 1 displaces 10.
		{"nothing", 0, 1, 0, 0, api.HullFloat{}},
		{"a ton", 1, 1, 0, 0, api.HullFloat{Mean: to(1, 1), Deep: to(1, 1)}},
		{"just a row", 10, 1, 0, 0, api.HullFloat{Mean: to(1, 1), Deep: to(1, 1)}},
		{"a ton more", 11, 1, 0, 0, api.HullFloat{Mean: to(2, 2), Deep: to(2, 2)}},
		{"at the fore end", 9, 9, 0, 1, api.HullFloat{Mean: to(1, 1), Deep: to(2, 2), Head: -1}},
		{"at the aft end", 9, 9, 9, 1, api.HullFloat{Mean: to(1, 1), Deep: to(2, 2), Head: 1}},
		{"half a meter before the middle", 9, 9, 4, 1, api.HullFloat{Mean: to(1, 1), Deep: to(2, 2), Head: -1}},
		{"half a meter after the middle", 9, 9, 5, 1, api.HullFloat{Mean: to(1, 1), Deep: to(2, 2), Head: 1}},
		{"less than 1 centimeter", 6, 9, 1, 4, api.HullFloat{Mean: to(1, 1), Deep: to(2, 2), Head: -1}},
		{"just 1 centimeter", 6, 7, 1, 4, api.HullFloat{Mean: to(1, 1), Deep: to(2, 2), Head: -1}},
		{"more than 1 centimeter", 6, 6, 1, 4, api.HullFloat{Mean: to(1, 1), Deep: to(3, 3), Head: -1}},
	} {
		h := api.Hull{Lot: 1, Sections: []api.HullSection{{Length: 9, Light: c.light, Trim: c.trim, Curve: rows(0, 0, 100, 1000), Holds: []api.HullHold{hold(c.at, 4)}}}}
		if f, e := hull.Float(h, []int{c.lots}, water); f != c.want || e != api.OK {
			t.Errorf("%s: %v, error %d, want %v", c.name, f, e, c.want)
		}
	}
}

// P2.3: sections of other lengths and masses have a moment of their own.
func TestFloatOfLightSections(t *testing.T) {
	h := api.Hull{Lot: 10, Sections: []api.HullSection{
		{Length: 10, Light: 30, Trim: 3, Curve: rows(0, 0, 100, 100)},
		{Length: 31, Light: 20, Trim: 2, Curve: rows(0, 0, 50, 50), Holds: []api.HullHold{hold(0, 3), hold(31, 3)}},
	}}
	// The moment is 30 * -31 + 20 * 10 = -730 without a load; a lot is 10 * -21, or 10 * 41, and 20 make a centimeter.
	for _, c := range []struct {
		load []int
		want api.HullFloat
		e    api.Errno
	}{
		{[]int{0, 0}, api.HullFloat{}, api.ErrFull}, {[]int{0, 1}, api.HullFloat{Mean: to(30, 30), Deep: to(46, 46), Head: -1}, api.OK}, {[]int{1, 2}, api.HullFloat{Mean: to(40, 40), Deep: to(46, 46), Head: -1}, api.OK},
		{[]int{0, 2}, api.HullFloat{Mean: to(35, 35), Deep: to(40, 40), Head: 1}, api.OK}, {[]int{0, 3}, api.HullFloat{}, api.ErrFull}, {[]int{2, 3}, api.HullFloat{}, api.ErrFull}, {[]int{3, 3}, api.HullFloat{}, api.ErrFull},
	} {
		if f, e := hull.Float(h, c.load, water); f != c.want || e != c.e {
			t.Errorf("%v: %v, error %d, want %v, error %d", c.load, f, e, c.want, c.e)
		}
	}
}

// P2.3: the deep draft may be the limit, at the lowest density too, but not more.
func TestFloatToTheLimit(t *testing.T) {
	h := api.Hull{Lot: 1, Sections: []api.HullSection{{Length: 10, Light: 8, Trim: 1, Curve: rows(0, 0, 10, 10), Holds: []api.HullHold{hold(5, 20), hold(3, 20)}}}}
	for _, c := range []struct {
		name    string
		load    []int
		density api.Bounds
		e       api.Errno
	}{
		{"below the limit", []int{1, 0}, water, api.OK}, {"at the limit", []int{2, 0}, water, api.OK}, {"beyond the limit", []int{3, 0}, water, api.ErrFull}, {"far beyond the limit", []int{20, 20}, water, api.ErrFull},
		{"deep at the limit", []int{0, 1}, water, api.OK}, {"deep beyond the limit", []int{1, 1}, water, api.ErrFull}, {"deep beyond the limit", []int{0, 2}, water, api.ErrFull},
		{"at the limit at the lowest density", []int{1, 0}, to(900, 1100), api.OK}, {"beyond it at the lowest density", []int{2, 0}, to(999, 1100), api.ErrFull}, {"at the limit at the highest density", []int{3, 0}, to(1100, 1100), api.OK}, {"beyond it by a little less", []int{3, 0}, to(1099, 1100), api.ErrFull},
	} {
		f, e := hull.Float(h, c.load, c.density)
		if e != c.e || e != api.OK && f != (api.HullFloat{}) || e == api.OK && f.Deep.High > 10 {
			t.Errorf("%s: %v, error %d, want %d", c.name, f, e, c.e)
		}
	}
}

// P2.3: the drafts are those of each density within the bounds.
func TestFloatByDensities(t *testing.T) {
	g := rand.New(rand.NewSource(2))
	floats := 0
	for range 1500 {
		h := randomHull(g)
		load, density := randomLoad(g, h), randomDensity(g)
		want, err := floatOf(h, load, density)
		if f, e := hull.Float(h, load, density); f != want || e != err {
			t.Fatalf("%v, load %v, density %v: %v, error %d, want %v, error %d", h, load, density, f, e, want, err)
		}
		if err == api.OK {
			floats++
		}
	}
	if floats < 300 || floats > 1400 {
		t.Error(floats, "of 1500 hulls float")
	}
}

// loadCase is a load of the example, and its error.
type loadCase struct {
	name string
	load []int
	e    api.Errno
}

// loadCases returns loads with and without errors.
func loadCases() []loadCase {
	l := []loadCase{
		{"no numbers", nil, api.ErrForm}, {"no numbers", []int{}, api.ErrForm}, {"a number too few", []int{1}, api.ErrForm}, {"a number too many", []int{0, 1, 0}, api.ErrForm}, {"a bad number too few", []int{-1}, api.ErrForm}, {"a bad number too many", []int{0, 1, 5}, api.ErrForm},
	}
	for _, c := range numberCases(0, 4) {
		l = append(l, loadCase{"the first hold", []int{c.n, 1}, errorUnless(c.ok, api.ErrRange)}, loadCase{"the last hold", []int{1, c.n}, errorUnless(c.ok, api.ErrRange)})
	}
	return l
}

// P2.3, P2.4, P2.6: the errors of a load, and those of the density after it.
func TestLoadErrors(t *testing.T) {
	for _, c := range loadCases() {
		a := goodArgs()
		a.load, a.p = c.load, canal(to(1000, 1000))
		wantErrors(t, c.name, a, c.e, "Float", "Safe", "Later")
		if c.e != api.OK {
			a.density, a.p = to(2, 1), api.Passage{Keel: -1}
			wantErrors(t, c.name+", and more errors", a, c.e, "Float", "Safe", "Later")
		}
	}
}

// P2.3: a load has one number for each hold, whichever section it is in, and none without holds.
func TestLoadOfHolds(t *testing.T) {
	h := example()
	h.Sections[0].Holds, h.Sections[1].Holds = nil, []api.HullHold{hold(15, 1), hold(15, 2), hold(15, 3)}
	for _, c := range []loadCase{{"all", []int{1, 2, 3}, api.OK}, {"the first one", []int{2, 0, 0}, api.ErrRange}, {"the second one", []int{0, 3, 0}, api.ErrRange}, {"the last one", []int{0, 0, 4}, api.ErrRange}, {"too few", []int{0, 0}, api.ErrForm}} {
		if f, e := hull.Float(h, c.load, water); e != c.e || e != api.OK && f != (api.HullFloat{}) {
			t.Errorf("%s: %v, error %d, want %d", c.name, f, e, c.e)
		}
	}
	h.Sections[1].Holds = nil
	for _, load := range [][]int{nil, {}} {
		if f, e := hull.Float(h, load, water); f.Mean != to(34, 34) || e != api.OK {
			t.Errorf("no holds: %v, error %d", f, e)
		}
	}
	if _, e := hull.Float(h, []int{0}, water); e != api.ErrForm {
		t.Error("a number without a hold:", e)
	}
}

// P2.3 to P2.6: the error of a density, before those of a passage, and before that of a hull that does not float.
func TestDensityErrors(t *testing.T) {
	for _, c := range boundsCases(api.MinDensity, api.MaxDensity) {
		a := goodArgs()
		a.density, a.p = c.b, canal(to(1000, 1000))
		wantErrors(t, "density", a, errorUnless(c.ok, api.ErrArg), "Float", "Safe", "Advise", "Later")
		if c.ok {
			continue
		}
		a.p = api.Passage{Keel: -1}
		wantErrors(t, "density and passage", a, api.ErrArg, "Float", "Safe", "Advise", "Later")
		a.h.Sections[0].Light, a.p = api.MaxLight, passage()
		wantErrors(t, "density, and too heavy", a, api.ErrArg, "Float", "Safe", "Advise", "Later")
	}
}
