package hull_test

import (
	"math"
	"math/rand"
	"slices"
	"testing"

	"thalweg/api"
	"thalweg/hull"
)

// extremes are integers at which sums and products would overflow.
var extremes = []int{math.MinInt, math.MinInt + 1, -1, 0, 1, math.MaxInt - 1, math.MaxInt}

// P1: all functions return, whatever their arguments are.
func TestExtremes(t *testing.T) {
	for _, a := range extremes {
		for _, b := range extremes {
			wild := api.HullSection{Length: a, Light: b, Trim: a, Curve: rows(0, 0, a, b, b, a), Holds: []api.HullHold{hold(a, b), hold(b, a)}}
			h := api.Hull{Lot: a, Sections: []api.HullSection{wild, wild}}
			p := canal(to(a, b), to(b, a))
			p.Way, p.Keel = []api.Pass{pass(a, a, b)}, b
			l := args{h: h, other: example(), draft: a, load: []int{a, b}, density: to(a, b), p: p, from: a, to: b}
			replies(l)
			l.h = example()
			replies(l)
			l.density, l.p = water, passage()
			replies(l)
			l.load, l.p.Way = []int{1, 1}, []api.Pass{pass(120, a, b)}
			replies(l)
			l.p = passage()
			l.p.Keel = a
			replies(l)
			hull.Life([]api.HullPlate{plate(to(a, b), to(b, a)), {}}, a)
			hull.Life([]api.HullPlate{{}}, b)
		}
	}
	replies(args{})
	replies(args{h: api.Hull{Lot: 1, Sections: make([]api.HullSection, 3)}})
	hull.Life(nil, 0)
}

// P1, R1, R2: with arguments that are valid, or not, no result comes with an error.
func TestNothingBesideErrors(t *testing.T) {
	g := rand.New(rand.NewSource(17))
	seen := map[api.Errno]bool{}
	for range 1000 {
		a := args{h: randomHull(g), other: randomHull(g), draft: g.Intn(300) - 10, density: to(890+g.Intn(120), 990+g.Intn(120)), p: randomPassage(g), from: g.Intn(4) - 1, to: g.Intn(5) - 1}
		a.load = randomLoad(g, a.h)
		if len(a.load) > 0 {
			a.load[0] += g.Intn(2)
		}
		a.p.Way[0].Hours.High += g.Intn(2)
		for _, x := range replies(a) {
			seen[x.e] = true
			if x.e != api.OK && !x.empty {
				t.Fatalf("%s: a result beside the error %d", x.name, x.e)
			}
		}
	}
	for _, e := range []api.Errno{api.OK, api.ErrArg, api.ErrRange, api.ErrForm, api.ErrNone, api.ErrFull, api.ErrState} {
		if !seen[e] {
			t.Error("no error", e)
		}
	}
}

// R3: nil and empty lists are the same.
func TestNilAndEmpty(t *testing.T) {
	for _, holds := range [][]api.HullHold{nil, {}} {
		for _, load := range [][]int{nil, {}} {
			a := goodArgs()
			a.h.Sections[0].Holds, a.h.Sections[1].Holds, a.load = holds, holds, load
			wantErrors(t, "no holds", a, api.OK)
			if x, e := hull.Advise(a.h, water, a.p); len(x.Load) != 0 || e != api.OK {
				t.Error("no holds:", x, e)
			}
		}
	}
	for _, sections := range [][]api.HullSection{nil, {}} {
		a := goodArgs()
		a.h.Sections = sections
		wantErrors(t, "no sections", a, api.ErrArg)
	}
	for _, curve := range [][]api.HullRow{nil, {}} {
		a := goodArgs()
		a.h.Sections[0].Curve = curve
		wantErrors(t, "no rows", a, api.ErrArg)
	}
}

// samePassage reports whether two passages on the chapter's river are equal.
func samePassage(a, b api.Passage) bool {
	return a.Keel == b.Keel && slices.Equal(a.Way, b.Way) && slices.EqualFunc(a.Sides, b.Sides, slices.Equal[[]api.Bounds]) && slices.Equal(a.River.Shoals, b.River.Shoals) &&
		slices.EqualFunc(a.River.Reaches, b.River.Reaches, func(x, y api.Reach) bool {
			return x.Base == y.Base && x.Bottom == y.Bottom && slices.Equal(x.Curve, y.Curve)
		})
}

// R4: no argument is changed.
func TestArgumentsAreKept(t *testing.T) {
	a, b := goodArgs(), goodArgs()
	a.load, b.load = []int{2, 1}, []int{2, 1} // not safe at once: Later looks at other hours
	a.p.Keel, b.p.Keel = 0, 0
	a.p.Way, b.p.Way = []api.Pass{pass(120, 0, 1), pass(10, 0, 0)}, []api.Pass{pass(120, 0, 1), pass(10, 0, 0)}
	replies(a)
	if !sameHull(a.h, b.h) || !sameHull(a.other, b.other) || !slices.Equal(a.load, b.load) || !samePassage(a.p, b.p) {
		t.Error("an argument was changed:", a)
	}
	plates := []api.HullPlate{plate(to(800, 820), to(10, 15)), plate(to(700, 700), to(0, 4))}
	same := slices.Clone(plates)
	hull.Life(plates, 600)
	if !slices.Equal(plates, same) {
		t.Error("the plates were changed:", plates)
	}
}

// scratch writes into all memory of a hull, also behind the ends of its lists.
func scratch(h api.Hull) {
	sections := h.Sections[:cap(h.Sections)]
	for i, x := range sections {
		for j := range x.Curve[:cap(x.Curve)] {
			x.Curve[:cap(x.Curve)][j] = api.HullRow{Draft: -7, Volume: -7}
		}
		for j := range x.Holds[:cap(x.Holds)] {
			x.Holds[:cap(x.Holds)][j] = hold(-7, -7)
		}
		sections[i] = api.HullSection{Length: -7}
	}
}

// R4: a hull from the yard shares no memory with the hulls that it is made of.
func TestResultsAreNew(t *testing.T) {
	for name, call := range map[string]func(a api.Hull) (api.Hull, api.Errno){
		"Cut, the first sections": func(a api.Hull) (api.Hull, api.Errno) { return hull.Cut(a, 0, 1) },
		"Cut, the middle":         func(a api.Hull) (api.Hull, api.Errno) { return hull.Cut(a, 1, 2) },
		"Cut, the last sections":  func(a api.Hull) (api.Hull, api.Errno) { return hull.Cut(a, 1, 3) },
		"Weld, before":            func(a api.Hull) (api.Hull, api.Errno) { return hull.Weld(a, marked(7, 4)) },
		"Weld, after":             func(a api.Hull) (api.Hull, api.Errno) { return hull.Weld(marked(7, 4), a) },
		"Weld, with itself": func(a api.Hull) (api.Hull, api.Errno) {
			a.Sections[0].Holds = nil
			return hull.Weld(a, a)
		},
	} {
		h := marked(7, 1, 2, 3)
		want := copyHull(must[api.Hull](t)(call(h)))
		first, argument := must[api.Hull](t)(call(h)), copyHull(h)
		scratch(first)
		if !sameHull(h, argument) {
			t.Errorf("%s: the result shares memory with its argument", name)
		}
		second := must[api.Hull](t)(call(h))
		scratch(h)
		if !sameHull(second, want) {
			t.Errorf("%s: an argument that changes later changes the result: %v", name, second)
		}
	}
}

// R4: no two lists of a result share memory, even if those of the arguments do.
func TestListsOfResultsAreApart(t *testing.T) {
	same := section(hold(15, 1))
	h := api.Hull{Lot: 100, Sections: []api.HullSection{same, same}}
	for name, x := range map[string]api.Hull{
		"Weld": must[api.Hull](t)(hull.Weld(h, h)),
		"Cut":  must[api.Hull](t)(hull.Cut(api.Hull{Lot: 100, Sections: []api.HullSection{same, same, same}}, 1, 2)),
	} {
		x.Sections[0].Curve[1].Draft, x.Sections[0].Holds[0].At = 99, 14
		for i, y := range x.Sections[1:] {
			if y.Curve[1].Draft != 100 || y.Holds[0].At != 15 {
				t.Errorf("%s: the sections 0 and %d share memory", name, i+1)
			}
		}
	}
}

// P1, R4: the same arguments have the same results, whatever was asked before, and each result is new.
func TestNoState(t *testing.T) {
	first := must[api.HullAdvice](t)(hull.Advise(example(), water, passage()))
	first.Load[0], first.Load[1] = 7, 8
	g := rand.New(rand.NewSource(18))
	for range 50 {
		replies(args{h: randomHull(g), other: randomHull(g), draft: 5, density: water, p: randomPassage(g), to: 1})
	}
	if again, e := hull.Advise(example(), water, passage()); !sameAdvice(again, advice(api.HullRiver, 0, 0, 0, 1)) || e != api.OK {
		t.Error("again:", again, e)
	}
}
