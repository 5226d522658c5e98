package hull_test

import (
	"math"
	"slices"
	"strconv"
	"testing"

	"thalweg/api"
	"thalweg/hull"
)

// hullCase is a change of the example, and whether it is valid afterwards.
type hullCase struct {
	name   string
	change func(h *api.Hull)
	ok     bool
}

// numberFields returns changes of each number of a hull, to and beyond its limits.
func numberFields() []hullCase {
	var l []hullCase
	number := func(name string, low, high int, set func(h *api.Hull, n int)) {
		for _, c := range numberCases(low, high) {
			l = append(l, hullCase{name + " " + strconv.Itoa(c.n), func(h *api.Hull) { set(h, c.n) }, c.ok})
		}
	}
	number("Lot", 1, api.MaxLot, func(h *api.Hull, n int) { h.Lot = n })
	for i := range 2 {
		number("Length", 1, api.MaxSectionLength, func(h *api.Hull, n int) {
			h.Sections[i].Length, h.Sections[i].Holds[0].At = n, 0
		})
		number("Light", 0, api.MaxLight, func(h *api.Hull, n int) { h.Sections[i].Light = n })
		number("Trim", 1, api.MaxTrim, func(h *api.Hull, n int) { h.Sections[i].Trim = n })
		number("At", 0, 30, func(h *api.Hull, n int) { h.Sections[i].Holds[0].At = n })
		number("At of the last hold", 0, 30, func(h *api.Hull, n int) {
			h.Sections[i].Holds = []api.HullHold{hold(15, 4), hold(n, 4)}
		})
		number("Lots", 0, api.MaxHoldLots, func(h *api.Hull, n int) { h.Sections[i].Holds[0].Lots = n })
		number("Lots of the last hold", 0, api.MaxHoldLots, func(h *api.Hull, n int) {
			h.Sections[i].Holds = []api.HullHold{hold(15, 4), hold(15, n)}
		})
	}
	return l
}

// curveCases returns changes of the curves.
func curveCases() []hullCase {
	var long []api.HullRow
	for i := range api.MaxHullRows + 1 {
		long = append(long, api.HullRow{Draft: 3 * i, Volume: 2 * i})
	}
	var l []hullCase
	for _, c := range []struct {
		name string
		rows []api.HullRow
		ok   bool
	}{
		{"no rows", nil, false}, {"one row", rows(0, 0), false}, {"two rows", rows(0, 0, 1, 1), true}, {"the most rows", long[:api.MaxHullRows], true}, {"too many rows", long, false},
		{"a first draft", rows(1, 0, 2, 1), false}, {"a first volume", rows(0, 1, 1, 2), false}, {"a first draft below 0", rows(-1, 0, 2, 1), false}, {"a first volume below 0", rows(0, -1, 1, 2), false},
		{"the same draft", rows(0, 0, 5, 1, 5, 2), false}, {"the same volume", rows(0, 0, 5, 1, 6, 1), false}, {"the same draft as the first", rows(0, 0, 0, 1, 2, 2), false}, {"the same volume as the first", rows(0, 0, 1, 0, 2, 1), false},
		{"a draft that descends", rows(0, 0, 5, 1, 4, 2), false}, {"a volume that descends", rows(0, 0, 5, 2, 6, 1), false}, {"the last draft descends", rows(0, 0, 5, 1, 6, 2, 3, 3), false}, {"the last volume descends", rows(0, 0, 5, 1, 6, 4, 7, 3), false},
		{"a draft below 0", rows(0, 0, -1, 1), false}, {"a volume below 0", rows(0, 0, 1, -1), false},
		{"the greatest draft", rows(0, 0, api.MaxDraft, 1), true}, {"a draft too great", rows(0, 0, api.MaxDraft+1, 1), false}, {"a last draft too great", rows(0, 0, 5, 5, api.MaxDraft+1, 6), false},
		{"the greatest volume", rows(0, 0, 1, api.MaxHullVolume), true}, {"a volume too great", rows(0, 0, 1, api.MaxHullVolume+1), false}, {"a last volume too great", rows(0, 0, 5, 5, 6, api.MaxHullVolume+1), false},
		{"any numbers", rows(0, 0, math.MaxInt, math.MaxInt), false}, {"any numbers", rows(0, 0, math.MinInt, math.MinInt), false}, {"any numbers", rows(math.MinInt, math.MinInt, math.MaxInt, math.MaxInt), false},
	} {
		for i := range 2 {
			l = append(l, hullCase{c.name, func(h *api.Hull) { h.Sections[i].Curve = c.rows }, c.ok})
		}
	}
	return l
}

// countCases returns changes of the numbers of sections and holds, and of the length.
func countCases() []hullCase {
	parts := func(name string, ok bool, l ...api.HullSection) hullCase {
		return hullCase{name, func(h *api.Hull) { h.Sections = l }, ok}
	}
	long := func(lengths ...int) []api.HullSection {
		var l []api.HullSection
		for _, n := range lengths {
			x := section()
			x.Length = n
			l = append(l, x)
		}
		return l
	}
	one := hold(1, 1)
	return []hullCase{
		parts("no sections", false), parts("one section", true, section()), parts("the most sections", true, slices.Repeat([]api.HullSection{section()}, 6)...), parts("too many sections", false, slices.Repeat(long(1), 7)...),
		parts("the greatest length", true, long(100, 100)...), parts("the greatest length", true, long(1, 99, 100)...), parts("too long", false, long(100, 100, 1)...), parts("too long", false, long(51, 50, 50, 50)...), parts("any length", false, long(math.MaxInt, math.MaxInt, 3)...), parts("any length", false, long(100, -50, 100)...),
		parts("the most holds", true, section(one, one, one, one)), parts("the most holds", true, section(one), section(one, one), section(), section(one)), parts("too many holds", false, section(one, one, one, one, one)), parts("too many holds", false, section(one, one), section(one), section(one, one)),
	}
}

// hullCases returns changes of all that makes a hull valid.
func hullCases() []hullCase {
	return slices.Concat(numberFields(), curveCases(), countCases())
}

// P2.1: Check returns ErrArg for each hull that is not valid, and only for those.
func TestCheck(t *testing.T) {
	for _, c := range hullCases() {
		h := example()
		c.change(&h)
		if e := hull.Check(h); e != errorUnless(c.ok, api.ErrArg) {
			t.Errorf("%s: error %d", c.name, e)
		}
	}
	if e := hull.Check(api.Hull{}); e != api.ErrArg {
		t.Error("no hull:", e)
	}
}

// P2.1: a hull without holds, and one without any mass, are valid.
func TestCheckSmallest(t *testing.T) {
	h := api.Hull{Lot: 1, Sections: []api.HullSection{{Length: 1, Trim: 1, Curve: rows(0, 0, 1, 1)}}}
	if e := hull.Check(h); e != api.OK {
		t.Error("the smallest hull:", e)
	}
	h.Sections[0].Holds = []api.HullHold{hold(0, 0), hold(1, 0)}
	if e := hull.Check(h); e != api.OK {
		t.Error("holds without room:", e)
	}
}

// P2.2 to P2.7: all functions return ErrArg for a hull that is not valid, before any other error.
func TestHullErrorIsFirst(t *testing.T) {
	for _, c := range hullCases() {
		if c.ok {
			continue
		}
		a := goodArgs()
		c.change(&a.h)
		wantErrors(t, c.name, a, api.ErrArg)
		bad := args{h: a.h, other: example(), draft: -1, load: []int{-1}, density: to(2, 1), p: api.Passage{Keel: -1}, from: 2, to: 1}
		bad.other.Lot = 7
		wantErrors(t, c.name+", bad arguments", bad, api.ErrArg)
	}
	wantErrors(t, "good arguments", goodArgs(), api.OK)
}
