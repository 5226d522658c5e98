package tow_test

import (
	"math"
	"math/rand"
	"slices"
	"testing"

	"thalweg/api"
	"thalweg/tow"
)

// extremes are integers at which sums and products would overflow.
var extremes = []int{math.MinInt, math.MinInt + 1, -1, 0, 1, math.MaxInt - 1, math.MaxInt}

// args are the arguments of all functions of the package.
type args struct {
	tow               api.Tow
	mass, speed, most int
	grip              api.Bounds
	place, sight      int
	l                 []api.Voyage
	narrows           []api.Narrow
}

// goodArgs have no error.
func goodArgs() args {
	return args{tow: exampleTow(), mass: 7700, speed: 90, most: 5000, grip: to(100, 125), place: 50, sight: 500, l: []api.Voyage{first(), second()}, narrows: []api.Narrow{single(40, 50), wide(60, 70, 20)}}
}

// reply is the error of a call, and whether all its other results are zero values.
type reply struct {
	name  string
	e     api.Errno
	empty bool
}

// replies calls all functions; the hulls of the first row are stacked, and the first and the last voyage meet in the first narrow.
func replies(a args) []reply {
	var hulls []api.TowHull
	for _, row := range a.tow.Rows {
		hulls = append(hulls, row...)
	}
	var v, w api.Voyage
	if len(a.l) > 0 {
		v, w = a.l[0], a.l[len(a.l)-1]
	}
	var n api.Narrow
	if len(a.narrows) > 0 {
		n = a.narrows[0]
	}
	size, e1 := tow.Measure(a.tow)
	rows, length, e2 := tow.Stack(a.tow.Boat, hulls, a.speed)
	way, e3 := tow.Stop(a.mass, a.tow.Power, a.grip, a.speed)
	speed, e4 := tow.Safe(a.mass, a.tow.Power, a.grip, a.sight)
	arrives, e5 := tow.Arrive(v, a.place)
	passes, e6 := through(v, n)
	may, must, e7 := tow.Meet(v, w, n)
	meetings, e8 := tow.Conflicts(a.l, a.narrows)
	holds, at, e9 := tow.Holds(a.l, a.narrows, a.most)
	order, held, sum, e10 := tow.Order(a.l, a.narrows, a.most)
	return []reply{
		{"Measure", e1, size == api.TowSize{}},
		{"Stack", e2, len(rows) == 0 && length == 0},
		{"Stop", e3, way == api.Bounds{}},
		{"Safe", e4, speed == 0},
		{"Check", tow.Check(v), true},
		{"Arrive", e5, arrives == api.Bounds{}},
		{"Through", e6, passes == passing{}},
		{"Meet", e7, !may && !must},
		{"Conflicts", e8, len(meetings) == 0},
		{"Holds", e9, len(holds) == 0 && (at == 0 || e9 == api.ErrNone)},
		{"Order", e10, len(order) == 0 && len(held) == 0 && sum == 0},
	}
}

// P1: all functions return, whatever their arguments are.
func TestExtremes(t *testing.T) {
	for _, a := range extremes {
		for _, b := range extremes {
			wild := hull(a, b, a)
			x := args{tow: api.Tow{Boat: wild, Power: b, Rows: [][]api.TowHull{{wild, wild}, {}}}, mass: a, speed: b, most: a, grip: to(a, b), place: a, sight: b}
			v := api.Voyage{Start: to(a, b), Runs: []api.Run{waits(a, b, to(b, a), to(a, b)), waits(b, a, to(a, b), to(b, a))}, Length: a, Width: b}
			x.l, x.narrows = []api.Voyage{v, v}, []api.Narrow{{From: a, To: b, Width: a, Single: true}, {From: b, To: a, Width: b}}
			wantNothingBesideErrors(t, x)
			x.tow, x.narrows = exampleTow(), goodArgs().narrows
			wantNothingBesideErrors(t, x)
			x.l = goodArgs().l
			wantNothingBesideErrors(t, x)
			y := goodArgs()
			y.narrows = []api.Narrow{{From: a, To: b, Width: a, Single: true}}
			wantNothingBesideErrors(t, y)
			y = goodArgs()
			y.l[1].Start, y.l[1].Length, y.l[0].Runs[0].Speed.High = to(a, b), b, a
			wantNothingBesideErrors(t, y)
		}
	}
	wantNothingBesideErrors(t, args{})
}

// wantNothingBesideErrors fails if a function returns a result beside an error.
func wantNothingBesideErrors(t *testing.T, a args) {
	t.Helper()
	for _, x := range replies(a) {
		if x.e != api.OK && !x.empty {
			t.Errorf("%s: a result beside the error %d", x.name, x.e)
		}
	}
}

// P1, R1, R2: with arguments that are valid, or not, no result comes with an error.
func TestNothingBesideErrors(t *testing.T) {
	g := rand.New(rand.NewSource(15))
	seen := map[api.Errno]bool{}
	for range 2000 {
		a := goodArgs()
		a.l, a.narrows = randomTraffic(g, 1+g.Intn(14), g.Intn(4))
		if g.Intn(3) == 0 {
			a.l[g.Intn(len(a.l))].Width = g.Intn(3) * 100
		}
		a.most, a.place, a.speed, a.sight = g.Intn(60)-1, g.Intn(40)-2, g.Intn(440)-20, g.Intn(300)-10
		a.tow.Rows[g.Intn(2)][0] = hull(g.Intn(210), g.Intn(32), g.Intn(10010))
		wantNothingBesideErrors(t, a)
		for _, x := range replies(a) {
			seen[x.e] = true
		}
	}
	for _, e := range []api.Errno{api.OK, api.ErrArg, api.ErrRange, api.ErrLong, api.ErrNone, api.ErrState} {
		if !seen[e] {
			t.Error("no error", e)
		}
	}
}

// P1: the greatest traffic, with voyages that are in each other's way everywhere, comes to an end.
func TestGreatestTraffic(t *testing.T) {
	var runs []api.Run
	for i := range api.MaxRuns {
		runs = append(runs, waits(5000*i, 5000*i+5000, to(1, 400), to(0, api.MaxWait)))
	}
	v := api.Voyage{Start: to(0, api.MaxMinute), Runs: runs, Length: api.MaxTowLength, Width: api.MaxTowWidth}
	var narrows []api.Narrow
	for i := range api.MaxNarrows {
		narrows = append(narrows, single(4000*i, 4000*i+3000))
	}
	l := slices.Repeat([]api.Voyage{v}, api.MaxVoyages)
	if m := must[[]api.Meeting](t)(tow.Conflicts(l, narrows)); len(m) != 66*20 {
		t.Error(len(m), "conflicts")
	}
	if holds, at, e := tow.Holds(l, narrows, api.MaxWait); len(holds) > 0 || at != 1 || e != api.ErrNone {
		t.Error(holds, at, e)
	}
	// Each voyage is in each narrow for four minutes.
	for i := range narrows {
		narrows[i] = single(4*i, 4*i+2)
	}
	want := []int{0, 4, 8, 12, 16, 20}
	wantOrder(t, "the same voyages", slices.Repeat(at(0), api.MaxOrdered), narrows, api.MaxWait, []int{0, 1, 2, 3, 4, 5}, want, total(want), api.OK)
}

// R3: nil and empty lists are the same.
func TestNilAndEmpty(t *testing.T) {
	for _, rows := range [][][]api.TowHull{nil, {}} {
		if size, e := tow.Measure(api.Tow{Boat: boat, Power: 1, Rows: rows}); size != (api.TowSize{Length: 30, Width: 10, Mass: 200}) || e != api.OK {
			t.Error("no rows:", size, e)
		}
	}
	for _, hulls := range [][]api.TowHull{nil, {}} {
		wantStack(t, "no hulls", boat, hulls, 23, nil, 30, api.OK)
		wantMeasure(t, "a row without hulls", api.Tow{Boat: boat, Power: 1, Rows: [][]api.TowHull{hulls}}, false)
	}
	for _, runs := range [][]api.Run{nil, {}} {
		if e := tow.Check(voyage(only(0), 100, runs...)); e != api.ErrArg {
			t.Error("no runs:", e)
		}
	}
	for _, l := range [][]api.Voyage{nil, {}} {
		for _, narrows := range [][]api.Narrow{nil, {}, {single(1, 2)}} {
			wantTrafficErrors(t, trafficCase{"no voyages", l, narrows, 0, api.OK, api.OK, api.OK})
			wantOrder(t, "no voyages", l, narrows, 0, nil, nil, 0, api.OK)
		}
	}
}

// sameVoyage reports whether two voyages are equal.
func sameVoyage(a, b api.Voyage) bool {
	return a.Start == b.Start && a.Length == b.Length && a.Width == b.Width && slices.Equal(a.Runs, b.Runs)
}

// R4: no argument is changed, also not behind the end of a list.
func TestArgumentsAreKept(t *testing.T) {
	a, b := goodArgs(), goodArgs()
	extra := hull(7, 7, 7)
	for i := range a.tow.Rows {
		a.tow.Rows[i] = append(a.tow.Rows[i], extra)[:len(b.tow.Rows[i])]
	}
	replies(a)
	hulls := append(slices.Concat(a.tow.Rows...), extra)
	want := slices.Clone(hulls)
	tow.Stack(boat, hulls[:2], 23)
	if !slices.EqualFunc(a.tow.Rows, b.tow.Rows, slices.Equal[[]api.TowHull]) || !slices.Equal(hulls, want) {
		t.Error("the hulls were changed:", a.tow, hulls)
	}
	for i, row := range a.tow.Rows {
		if row[:len(row)+1][len(row)] != extra {
			t.Error("a hull behind the row", i, "was changed")
		}
	}
	if !slices.EqualFunc(a.l, b.l, sameVoyage) || !slices.Equal(a.narrows, b.narrows) {
		t.Error("the traffic was changed:", a.l, a.narrows)
	}
}

// R4: what is written into a result is not seen in another one, nor in the other list of the same result.
func TestResultsAreNew(t *testing.T) {
	l, narrows := at(0, 0, 0), []api.Narrow{single(10, 14)}
	order, holds, _, _ := tow.Order(l, narrows, 5000)
	for i := range order[:cap(order)] {
		order[:cap(order)][i] = 9
	}
	if !slices.Equal(holds, []int{0, 6, 12}) {
		t.Error("the holds are those of the order:", holds)
	}
	for i := range holds {
		holds[i] = 9
	}
	wantOrder(t, "again", l, narrows, 5000, []int{0, 1, 2}, []int{0, 6, 12}, 18, api.OK)
	hulls := row(5, hull(80, 11, 0))
	rows, _, _ := tow.Stack(boat, hulls, 200)
	rows[0] = 9
	wantStack(t, "again", boat, hulls, 200, []int{1, 4}, 190, api.OK)
	meetings, _ := tow.Conflicts(l, narrows)
	meetings[0].Narrow = 9
	if again, e := tow.Conflicts(l, narrows); again[0] != meeting(0, 1, 0) || e != api.OK {
		t.Error("again:", again, e)
	}
}
