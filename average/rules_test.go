package average_test

import (
	"math/rand"
	"reflect"
	"slices"
	"testing"

	"thalweg/api"
	"thalweg/cases"
)

// args are the arguments of all functions.
type args struct {
	n                     int
	weights               []int
	interests, commission int
	notes                 []api.Note
	p                     parties
	x                     tank
	from, to, rate        int
	t                     api.Tariff
	payers                int
	passes                []api.DuePass
}

// goodArgs have no error.
func goodArgs() args {
	return args{
		100, []int{1, 1, 1}, 3, 200, exampleNotes(), exampleParties(), exampleTank(), 0, 1, 100,
		exampleTariff(), 2, []api.DuePass{pass(0, 1250, 110), pass(1, 100, 100)},
	}
}

// reply is the error of a call, and whether all its other results are zero values, or the position of the error.
type reply struct {
	name  string
	e     api.Errno
	empty bool
}

// replies calls all functions.
func replies(a args) []reply {
	s, b, n := split(a.n, a.weights), blame(a.p), adjust(a.interests, a.commission, a.notes)
	f, m, d := a.x.burned(a.from, a.to), a.x.missing(a.rate), dues(a.t, a.payers, a.passes)
	return []reply{
		{"Split", s.e, s.same(shared{e: s.e})}, {"Adjust", n.e, n.same(adjusted{at: n.at, e: n.e})}, {"Blame", b.e, b.same(shared{e: b.e})},
		{"Burned", f.e, f == burned{e: f.e}}, {"Missing", m.e, m == missing{e: m.e}}, {"Dues", d.e, d.same(billed{at: d.at, e: d.e})},
	}
}

// errorsOf returns the errors of replies.
func errorsOf(l []reply) []api.Errno {
	var errors []api.Errno
	for _, x := range l {
		errors = append(errors, x.e)
	}
	return errors
}

// wantNothingBesideErrors fails if a function returns a result beside an error.
func wantNothingBesideErrors(t *testing.T, l []reply) {
	t.Helper()
	for _, x := range l {
		if x.e != api.OK && !x.empty {
			t.Errorf("a result beside an error: %v", x)
		}
	}
}

// R1: the errors of Split and Adjust, in the order in which they are listed; at is 0 unless a note has the error.
func TestOrderOfErrorsOfShares(t *testing.T) {
	bad := slices.Repeat([]int{-1}, 61)
	for _, c := range []struct {
		name    string
		n       int
		weights []int
		want    api.Errno
	}{
		{"too many weights, before all else", -1, bad, api.ErrLong},
		{"the sum, before the weights", -1, bad[:60], api.ErrRange},
		{"the sum, before no weights", 1e15, nil, api.ErrRange},
		{"the weights", 1, bad[:60], api.ErrArg},
	} {
		if got := split(c.n, c.weights); !got.same(shared{e: c.want}) {
			t.Errorf("%s: %v, want %d", c.name, got, c.want)
		}
	}
	wrong := slices.Repeat(notes(0, -1, 0), 301)
	lost := notes(1, 0, 5, 3, 0, 6, 4, 0, 100)
	for _, c := range []struct {
		name                  string
		interests, commission int
		notes                 []api.Note
		want                  adjusted
	}{
		{"no interests, before too many notes", 0, 0, wrong, adjusted{e: api.ErrRange}},
		{"too many interests, before a note", 41, 0, wrong[:2], adjusted{e: api.ErrRange}},
		{"the commission, before too many notes", 1, -1, wrong, adjusted{e: api.ErrRange}},
		{"the commission, before a state", 1, 10001, nil, adjusted{e: api.ErrRange}},
		{"too many notes, before one with an error", 1, 0, wrong, adjusted{e: api.ErrLong}},
		{"a note, before a state", 1, 0, slices.Concat(lost, wrong[:1]), adjusted{at: 3, e: api.ErrArg}},
		{"a state, before what is too much", 1, 0, lost, adjusted{e: api.ErrState}},
		{"too much", 1, 0, slices.Concat(lost, notes(1, 0, 7)), adjusted{e: api.ErrOver}},
	} {
		if got := adjust(c.interests, c.commission, c.notes); !got.same(c.want) {
			t.Errorf("%s: %v, want %v", c.name, got, c.want)
		}
	}
}

// R1: the errors of Burned and Missing, in the order in which they are listed.
func TestOrderOfErrorsOfFuel(t *testing.T) {
	bad := slices.Repeat(soundings(5, 9, 8), 101)
	good := soundings(0, 5, 5, 1, 9, 9)
	wrong := slices.Repeat(bunkers(0, 0), 101)
	for _, c := range []struct {
		name            string
		x               tank
		burned, missing api.Errno
	}{
		{"too many soundings, before all else", tank{bad, wrong[:1]}, api.ErrLong, api.ErrLong},
		{"too many bunkers, before no soundings", tank{nil, wrong}, api.ErrLong, api.ErrLong},
		{"too many bunkers, before one that is not valid", tank{bad[:2], wrong}, api.ErrLong, api.ErrLong},
		{"no soundings, before a bunker", tank{nil, wrong[:1]}, api.ErrForm, api.ErrForm},
		{"soundings, before the numbers", tank{bad[:2], nil}, api.ErrArg, api.ErrArg},
		{"a bunker, before the numbers", tank{good, wrong[:1]}, api.ErrArg, api.ErrArg},
		{"the numbers", tank{good, nil}, api.ErrNone, api.ErrRange},
	} {
		if got := c.x.burned(1, 0); got != (burned{e: c.burned}) {
			t.Errorf("%s: Burned: %v", c.name, got)
		}
		if got := c.x.missing(-1); got != (missing{e: c.missing}) {
			t.Errorf("%s: Missing: %v", c.name, got)
		}
	}
	x := tank{good, nil}
	if got := x.burned(0, 1); got != (burned{e: api.ErrState}) {
		t.Error("what is not possible:", got)
	}
	if got := x.missing(0); got != (missing{e: api.ErrNone}) {
		t.Error("nothing is missing:", got)
	}
}

// R1: the errors of Dues, in the order in which they are listed; at is 0 unless a pass has the error.
func TestOrderOfErrorsOfDues(t *testing.T) {
	wrong := slices.Repeat([]api.DuePass{pass(0, 1, 1), pass(-1, -1, -1)}, 151)
	bad, good := api.Tariff{Base: -1}, exampleTariff()
	for _, c := range []struct {
		name   string
		t      api.Tariff
		payers int
		passes []api.DuePass
		want   billed
	}{
		{"the tariff, before all else", bad, 0, wrong, billed{e: api.ErrArg}},
		{"the tariff, before too many passes", bad, 1, wrong, billed{e: api.ErrArg}},
		{"the tariff, before a pass", bad, 1, wrong[:2], billed{e: api.ErrArg}},
		{"no payers, before too many passes", good, 0, wrong, billed{e: api.ErrRange}},
		{"too many payers, before a pass", good, 41, wrong[:2], billed{e: api.ErrRange}},
		{"too many passes, before one with an error", good, 1, wrong, billed{e: api.ErrLong}},
		{"a pass", good, 1, wrong[:2], billed{at: 1, e: api.ErrNone}},
		{"nothing is wrong", good, 1, wrong[:1], billed{l: []int{501}}},
	} {
		if got := dues(c.t, c.payers, c.passes); !got.same(c.want) {
			t.Errorf("%s: %v, want %v", c.name, got, c.want)
		}
	}
}

// P1: all functions return, whatever their arguments are.
func TestExtremes(t *testing.T) {
	for _, a := range cases.Extremes() {
		for _, b := range cases.Extremes() {
			wild := args{
				a, []int{a, b}, a, b, []api.Note{note(api.NoteKind(a), b, a), note(api.NoteKind(b), a, b)},
				parties{[]int{a, b}, []int{b, a}, []int{a, b}}, tank{soundings(a, b, a, b, a, b), bunkers(a, b, b, a)}, a, b, a,
				api.Tariff{Base: a, Tons: b, Length: a, Passes: b, Off: a, Most: b}, a, []api.DuePass{pass(a, b, a), pass(b, a, b)},
			}
			wantNothingBesideErrors(t, replies(wild))
			good := goodArgs()
			mixed := good
			mixed.weights, mixed.notes, mixed.passes = wild.weights, append(mixed.notes, wild.notes...), append(mixed.passes, wild.passes...)
			mixed.x.b, mixed.p.limits = wild.x.b, append(wild.p.limits, 5)
			wantNothingBesideErrors(t, replies(mixed))
			mixed = good
			mixed.n, mixed.interests, mixed.commission, mixed.from, mixed.to, mixed.rate, mixed.t, mixed.payers = a, a, b, a, b, a, wild.t, a
			mixed.x.l, mixed.p.losses = append(mixed.x.l, wild.x.l...), append(wild.p.losses, 5)
			wantNothingBesideErrors(t, replies(mixed))
			mixed = good
			mixed.from, mixed.to, mixed.p.faults = a, b, append(wild.p.faults, 5)
			wantNothingBesideErrors(t, replies(mixed))
		}
	}
	wantNothingBesideErrors(t, replies(args{}))
}

// P1, R2: with arguments that are valid, or not, no result comes with an error.
func TestNothingBesideErrors(t *testing.T) {
	g := rand.New(rand.NewSource(8))
	seen := map[api.Errno]bool{}
	for range 5000 {
		interests, payers := 1+g.Intn(4), 1+g.Intn(4)
		a := args{
			g.Intn(99), randomNumbers(g, g.Intn(5), 9), interests, g.Intn(10001), randomNotes(g, 1+g.Intn(9), interests, 9),
			randomParties(g, 9), randomTank(g, 20), 0, 1, g.Intn(300), randomTariff(g), payers, randomPasses(g, g.Intn(9), payers),
		}
		switch g.Intn(8) {
		case 0:
			a.n, a.from, a.rate = -1, 1, -1
		case 1:
			a.weights, a.notes = slices.Repeat([]int{1}, 61), slices.Repeat(a.notes, 301)
		case 2:
			a.notes, a.passes = append(a.notes, note(0, 0, 0)), append(a.passes, pass(0, 0, -1))
		case 3:
			a.p.losses, a.x.l = nil, nil
		}
		replied := replies(a)
		wantNothingBesideErrors(t, replied)
		for _, x := range replied {
			seen[x.e] = true
		}
	}
	for _, e := range []api.Errno{api.OK, api.ErrArg, api.ErrRange, api.ErrForm, api.ErrLong, api.ErrNone, api.ErrState, api.ErrOver} {
		if !seen[e] {
			t.Error("no error", e)
		}
	}
}

// R3: nil and empty lists are the same.
func TestNilAndEmpty(t *testing.T) {
	empty := args{weights: []int{}, notes: []api.Note{}, p: parties{[]int{}, []int{}, []int{}}, x: tank{[]api.Sounding{}, []api.Bunker{}}, passes: []api.DuePass{}}
	want := []api.Errno{api.ErrArg, api.ErrState, api.ErrForm, api.ErrForm, api.ErrForm, api.OK}
	for _, a := range []args{{}, empty} {
		a.interests, a.payers = 1, 2
		if got := errorsOf(replies(a)); !slices.Equal(got, want) {
			t.Error(got)
		}
		if got := dues(a.t, a.payers, a.passes); !got.same(billed{l: []int{0, 0}}) {
			t.Error("dues:", got)
		}
		x := tank{exampleTank().l, a.x.b}
		if got := x.burned(0, 1); got != (burned{b: api.Bounds{Low: 180, High: 210}}) {
			t.Error("no bunkers:", got)
		}
		if got := x.missing(0); got != (missing{0, 1, 180, api.OK}) {
			t.Error("no bunkers:", got)
		}
	}
}

// cloneArgs returns arguments as new memory.
func cloneArgs(a args) args {
	a.weights, a.notes, a.passes = slices.Clone(a.weights), slices.Clone(a.notes), slices.Clone(a.passes)
	a.p = parties{slices.Clone(a.p.losses), slices.Clone(a.p.faults), slices.Clone(a.p.limits)}
	a.x = tank{slices.Clone(a.x.l), slices.Clone(a.x.b)}
	return a
}

// R4: no argument is changed, also not behind the end of a list.
func TestArgumentsAreKept(t *testing.T) {
	whole := goodArgs()
	slices.Reverse(whole.notes)
	whole.weights = append(whole.weights, 0, 7)
	whole.passes = append(whole.passes, pass(0, 5, 5))
	whole.x.l = append(whole.x.l, sounding(200, 1, 2))
	whole.x.b = append(whole.x.b, bunker(150, 20), bunker(5, 7))
	same := cloneArgs(whole)
	for _, x := range replies(whole) {
		if x.e != api.OK {
			t.Error(x)
		}
	}
	part := whole
	part.weights, part.notes, part.passes = whole.weights[:2], whole.notes[2:], whole.passes[:1]
	part.x = tank{whole.x.l[:2], whole.x.b[:1]}
	part.p = parties{whole.p.losses[:2], whole.p.faults[:2], whole.p.limits[:2]}
	for _, x := range replies(part) {
		if x.e != api.OK {
			t.Error("a part:", x)
		}
	}
	part.notes = whole.notes[:2]
	replies(part)
	if !reflect.DeepEqual(whole, same) {
		t.Error("changed:", whole)
	}
}

// R4: what is written into a result is not seen in an argument, nor in another result.
func TestResultsAreNew(t *testing.T) {
	a := goodArgs()
	results := func() []any {
		return []any{split(a.n, a.weights), adjust(a.interests, a.commission, a.notes), blame(a.p), dues(a.t, a.payers, a.passes)}
	}
	before := results()
	s, n, b, d := split(a.n, a.weights), adjust(a.interests, a.commission, a.notes), blame(a.p), dues(a.t, a.payers, a.passes)
	cases.Spoil(s.l, 9)
	cases.Spoil(n.l, account(9, 9, 9))
	cases.Spoil(b.l, 9)
	cases.Spoil(d.l, 9)
	if !reflect.DeepEqual(a, goodArgs()) {
		t.Error("changed:", a)
	}
	if after := results(); !reflect.DeepEqual(before, after) {
		t.Error("again:", after, before)
	}
}
