package tow_test

import (
	"math/rand"
	"slices"
	"strconv"
	"testing"

	"thalweg/api"
	"thalweg/tow"
)

// row returns so many hulls that are alike.
func row(n int, h api.TowHull) []api.TowHull { return slices.Repeat([]api.TowHull{h}, n) }

// P3.1: the example of the chapter, and which hulls count for which number.
func TestMeasure(t *testing.T) {
	for _, c := range []struct {
		name string
		rows [][]api.TowHull
		want api.TowSize
	}{
		{"the example 1", exampleTow().Rows, api.TowSize{Length: 200, Width: 22, Mass: 7700, Hulls: 3}},
		{"a boat alone", nil, api.TowSize{Length: 30, Width: 10, Mass: 200}},
		{"a small hull", [][]api.TowHull{{hull(1, 1, 0)}}, api.TowSize{Length: 31, Width: 10, Mass: 200, Hulls: 1}},
		{"hulls as wide as the boat", [][]api.TowHull{{hull(1, 5, 0), hull(2, 5, 0)}}, api.TowSize{Length: 32, Width: 10, Mass: 200, Hulls: 2}},
		{"hulls wider than the boat", [][]api.TowHull{{hull(2, 5, 1), hull(1, 6, 2)}}, api.TowSize{Length: 32, Width: 11, Mass: 203, Hulls: 2}},
		{"the first row is wider", [][]api.TowHull{{hull(20, 11, 0), hull(70, 11, 0)}, {hull(90, 21, 0)}}, api.TowSize{Length: 190, Width: 22, Mass: 200, Hulls: 3}},
		{"the last row is wider", [][]api.TowHull{{hull(80, 11, 0)}, {hull(90, 8, 0), hull(50, 8, 0), hull(60, 8, 0)}}, api.TowSize{Length: 200, Width: 24, Mass: 200, Hulls: 4}},
		{"rows that are alike", [][]api.TowHull{row(4, hull(10, 7, 3)), row(4, hull(10, 7, 3))}, api.TowSize{Length: 50, Width: 28, Mass: 224, Hulls: 8}},
		{"the greatest tow", append(slices.Repeat([][]api.TowHull{row(3, hull(200, 30, 10000))}, 9), row(3, hull(200, 30, 10000))), api.TowSize{Length: 2030, Width: 90, Mass: 300200, Hulls: 30}},
	} {
		if got, e := tow.Measure(api.Tow{Boat: boat, Power: 1, Rows: c.rows}); got != c.want || e != api.OK {
			t.Errorf("%s: %v, error %d, want %v", c.name, got, e, c.want)
		}
	}
}

// hullCases returns hulls that are, and are not, valid.
func hullCases() map[api.TowHull]bool {
	l := map[api.TowHull]bool{{}: false}
	for _, c := range numberCases(1, api.MaxHullLength) {
		l[hull(c.n, 10, 100)] = c.ok
	}
	for _, c := range numberCases(1, api.MaxHullWidth) {
		l[hull(80, c.n, 100)] = c.ok
	}
	for _, c := range numberCases(0, api.MaxHullMass) {
		l[hull(80, 10, c.n)] = c.ok
	}
	return l
}

// wantMeasure fails unless Measure returns an error, and nothing else, or no error.
func wantMeasure(t *testing.T, name string, x api.Tow, ok bool) {
	t.Helper()
	size, e := tow.Measure(x)
	if e != errorUnless(ok, api.ErrArg) || !ok && size != (api.TowSize{}) {
		t.Errorf("%s: %v, error %d", name, size, e)
	}
}

// P3.1: Measure returns ErrArg for each tow that is not valid, and only for those.
func TestMeasureErrors(t *testing.T) {
	for h, ok := range hullCases() {
		x := exampleTow()
		x.Boat = h
		wantMeasure(t, "a boat", x, ok)
		for i, hulls := range exampleTow().Rows {
			for j := range hulls {
				x := exampleTow()
				x.Rows[i][j] = h
				wantMeasure(t, "a hull", x, ok)
			}
		}
	}
	for _, c := range numberCases(1, api.MaxPower) {
		x := exampleTow()
		x.Power = c.n
		wantMeasure(t, "power "+strconv.Itoa(c.n), x, c.ok)
	}
	one := hull(80, 10, 100)
	for _, c := range []struct {
		name string
		rows [][]api.TowHull
		ok   bool
	}{
		{"the most rows", slices.Repeat([][]api.TowHull{{one}}, api.MaxTowRows), true}, {"too many rows", slices.Repeat([][]api.TowHull{{one}}, api.MaxTowRows+1), false},
		{"an empty row", [][]api.TowHull{{}}, false}, {"an empty row", [][]api.TowHull{nil}, false}, {"an empty row at last", [][]api.TowHull{{one}, nil}, false},
		{"the widest row", [][]api.TowHull{{one}, row(api.MaxAbreast, one)}, true}, {"a row too wide", [][]api.TowHull{{one}, row(api.MaxAbreast+1, one)}, false}, {"a first row too wide", [][]api.TowHull{row(api.MaxAbreast+1, one), {one}}, false},
		{"the most hulls", slices.Repeat([][]api.TowHull{row(3, one)}, 10), true}, {"the most hulls", append(slices.Repeat([][]api.TowHull{row(4, one)}, 7), row(2, one)), true}, {"too many hulls", append(slices.Repeat([][]api.TowHull{row(4, one)}, 7), row(3, one)), false}, {"too many hulls", append(slices.Repeat([][]api.TowHull{row(3, one)}, 9), row(4, one)), false},
	} {
		wantMeasure(t, c.name, api.Tow{Boat: boat, Power: 1, Rows: c.rows}, c.ok)
	}
}

// wantStack fails unless Stack returns rows and a length, or an error and nothing else.
func wantStack(t *testing.T, name string, boat api.TowHull, hulls []api.TowHull, width int, rows []int, length int, e api.Errno) {
	t.Helper()
	got, n, err := tow.Stack(boat, hulls, width)
	if !slices.Equal(got, rows) || n != length || err != e {
		t.Errorf("%s: %v, %d, error %d, want %v, %d, error %d", name, got, n, err, rows, length, e)
	}
}

// P3.2: the example of the chapter, the edges of widths and rows, and which of several lists is chosen.
func TestStack(t *testing.T) {
	a, b := hull(80, 11, 1), hull(90, 11, 1)
	for _, c := range []struct {
		name   string
		hulls  []api.TowHull
		width  int
		rows   []int
		length int
		e      api.Errno
	}{
		{"the example 2", []api.TowHull{a, b, a, a}, 23, []int{2, 2}, 200, api.OK},
		{"no hulls", nil, 23, nil, 30, api.OK},
		{"no hulls, as wide as the boat", nil, 10, nil, 30, api.OK},
		{"one hull", row(1, a), 23, []int{1}, 110, api.OK},
		{"just wide enough", row(2, a), 22, []int{2}, 110, api.OK}, {"not wide enough", row(2, a), 21, []int{1, 1}, 190, api.OK},
		{"just wide enough for three", row(3, a), 33, []int{3}, 110, api.OK}, {"not wide enough for three", row(3, a), 32, []int{1, 2}, 190, api.OK},
		{"four abreast", row(4, a), 200, []int{4}, 110, api.OK}, {"not five abreast", row(5, a), 200, []int{1, 4}, 190, api.OK}, {"the smallest of three lists", row(6, a), 200, []int{2, 4}, 190, api.OK},
		{"the smallest of several lists", row(5, a), 22, []int{1, 2, 2}, 270, api.OK},
		{"the longest ones together", []api.TowHull{b, b, a, a, a}, 200, []int{2, 3}, 200, api.OK},
		{"shorter ones apart", []api.TowHull{hull(100, 9, 0), hull(100, 9, 0), hull(10, 9, 0), hull(10, 9, 0)}, 18, []int{2, 2}, 140, api.OK},
		{"a short one first", []api.TowHull{hull(10, 9, 0), hull(100, 9, 0), hull(100, 9, 0), hull(10, 9, 0)}, 18, []int{1, 2, 1}, 150, api.OK},
		{"a wide one in the middle", []api.TowHull{hull(10, 9, 0), hull(10, 30, 0), hull(10, 9, 0)}, 30, []int{1, 1, 1}, 60, api.OK},
		{"the most rows", row(10, a), 21, []int{1, 1, 1, 1, 1, 1, 1, 1, 1, 1}, 830, api.OK}, {"too many rows", row(11, a), 21, nil, 0, api.ErrNone},
		{"the most rows of two", row(20, a), 22, []int{2, 2, 2, 2, 2, 2, 2, 2, 2, 2}, 830, api.OK}, {"too many rows of two", row(21, a), 32, nil, 0, api.ErrNone},
		{"the most hulls", row(30, a), 43, []int{3, 3, 3, 3, 3, 3, 3, 3, 3, 3}, 830, api.OK}, {"the most hulls, four abreast", row(30, a), 44, []int{2, 4, 4, 4, 4, 4, 4, 4}, 670, api.OK},
		{"a hull too wide", []api.TowHull{a, hull(10, 24, 0), a}, 23, nil, 0, api.ErrNone}, {"a boat too wide", row(1, hull(10, 9, 0)), 9, nil, 0, api.ErrNone}, {"a boat alone too wide", nil, 9, nil, 0, api.ErrNone},
		{"too many hulls", row(31, a), 200, nil, 0, api.ErrLong},
	} {
		wantStack(t, c.name, boat, c.hulls, c.width, c.rows, c.length, c.e)
	}
}

// P3.2: rows that would make the tow shorter do not count if there are too many of them.
func TestStackLastRows(t *testing.T) {
	short, long, full := hull(10, 9, 0), hull(50, 9, 0), hull(10, 18, 0)
	last := []api.TowHull{short, long, long, short}
	wantStack(t, "three rows are left", boat, slices.Concat(row(7, full), last), 18, []int{1, 1, 1, 1, 1, 1, 1, 1, 2, 1}, 170, api.OK)
	wantStack(t, "two rows are left", boat, slices.Concat(row(8, full), last), 18, []int{1, 1, 1, 1, 1, 1, 1, 1, 2, 2}, 210, api.OK)
	wantStack(t, "two rows are left for the first ones", boat, slices.Concat(last, row(8, full)), 18, []int{2, 2, 1, 1, 1, 1, 1, 1, 1, 1}, 210, api.OK)
	wantStack(t, "one row is left", boat, slices.Concat(row(9, full), last), 18, nil, 0, api.ErrNone)
	// The same hulls come last, with more rows or fewer for them, as the first ones are put together.
	wantStack(t, "one of the first rows less", boat, slices.Concat(row(2, short), row(7, full), last), 18, []int{2, 1, 1, 1, 1, 1, 1, 1, 2, 2}, 210, api.OK)
}

// P3.2: the errors of Stack, in their order.
func TestStackErrors(t *testing.T) {
	good := row(3, hull(80, 10, 100))
	for h, ok := range hullCases() {
		e := errorUnless(ok, api.ErrArg)
		if _, _, err := tow.Stack(h, good, 40); err != e {
			t.Errorf("boat %v: error %d", h, err)
		}
		for i := range good {
			hulls := slices.Clone(good)
			hulls[i] = h
			if _, _, err := tow.Stack(boat, hulls, 40); err != e {
				t.Errorf("hull %d %v: error %d", i, h, err)
			}
		}
		if !ok {
			wantStack(t, "a bad boat first", h, row(31, hull(80, 10, 100)), 0, nil, 0, api.ErrArg)
			wantStack(t, "a bad hull first", boat, append(row(31, hull(80, 10, 100)), h), 0, nil, 0, api.ErrArg)
		}
	}
	for _, c := range numberCases(1, api.MaxTowWidth) {
		_, _, e := tow.Stack(hull(1, 1, 0), row(4, hull(1, 1, 0)), c.n)
		if e != errorUnless(c.ok, api.ErrRange) {
			t.Errorf("width %d: error %d", c.n, e)
		}
		if !c.ok {
			wantStack(t, "too many hulls first", boat, row(31, good[0]), c.n, nil, 0, api.ErrLong)
			wantStack(t, "a bad width, then a boat too wide", boat, good, c.n, nil, 0, api.ErrRange)
		}
	}
}

// stackOf returns the rows that Stack returns, by looking at all lists, from the smallest one on; or false if there are none.
func stackOf(hulls []api.TowHull, width, rows int) (best []int, length int, ok bool) {
	var look func(list []int, rest []api.TowHull, sum int)
	look = func(list []int, rest []api.TowHull, sum int) {
		if len(rest) == 0 {
			if !ok || sum < length {
				best, length, ok = slices.Clone(list), sum, true
			}
			return
		}
		if len(list) == rows {
			return
		}
		longest, wide := 0, 0
		for i, h := range rest[:min(len(rest), 4)] {
			longest, wide = max(longest, h.Length), wide+h.Width
			if wide <= width {
				look(append(list, i+1), rest[i+1:], sum+longest)
			}
		}
	}
	look(nil, hulls, 0)
	return best, length, ok
}

// randomHulls returns hulls, and a width of rows; often there are too few rows for the shortest tow.
func randomHulls(g *rand.Rand) (hulls []api.TowHull, width int) {
	lengths, widths := 1+g.Intn(6), 1+g.Intn(20)
	if g.Intn(2) == 0 {
		for range g.Intn(14) {
			hulls = append(hulls, hull(1+g.Intn(lengths), 1+g.Intn(widths), g.Intn(3)))
		}
		return hulls, 10 + g.Intn(30)
	}
	for range 4 + g.Intn(3) {
		hulls = append(hulls, hull(1+g.Intn(9), 6+3*g.Intn(2), 0))
	}
	// Each of the others has a row for itself, so that two or three rows are left for these.
	alone, before := 7+g.Intn(2), g.Intn(7)
	return slices.Concat(row(before, hull(1, 18, 0)), hulls, row(alone-before, hull(1, 18, 0))), 18
}

// P3.2, P3.13: of all rows that are allowed, none make a shorter tow, and none as short have a smaller list.
func TestStackIsShortest(t *testing.T) {
	g := rand.New(rand.NewSource(1))
	none, longer := 0, 0
	for range 6000 {
		hulls, width := randomHulls(g)
		rows, length, ok := stackOf(hulls, width, api.MaxTowRows)
		got, n, e := tow.Stack(boat, hulls, width)
		if _, least, _ := stackOf(hulls, width, len(hulls)); ok && least < length {
			longer++
		}
		want := boat.Length + length
		if !ok {
			none++
			want = 0
		}
		if e != errorUnless(ok, api.ErrNone) || !slices.Equal(got, rows) || n != want {
			t.Fatalf("%v, width %d: %v, %d, error %d, want %v, %d", hulls, width, got, n, e, rows, want)
		}
	}
	if min(none, longer) < 50 {
		t.Error("only", none, "without rows, and", longer, "that are longer because there are too many rows")
	}
}

// P3.2, P3.13: Measure finds the length of a tow with the rows that Stack returns, and no greater width.
func TestStackAndMeasure(t *testing.T) {
	g := rand.New(rand.NewSource(2))
	for range 500 {
		var hulls []api.TowHull
		for range g.Intn(api.MaxTowHulls + 1) {
			hulls = append(hulls, hull(1+g.Intn(200), 1+g.Intn(30), g.Intn(10001)))
		}
		width := 30 + g.Intn(171)
		rows, length, e := tow.Stack(boat, hulls, width)
		if e == api.ErrNone {
			continue
		}
		x, rest := api.Tow{Boat: boat, Power: 1}, hulls
		for _, n := range rows {
			x.Rows, rest = append(x.Rows, rest[:n]), rest[n:]
		}
		size := must[api.TowSize](t)(tow.Measure(x))
		if len(rest) != 0 || size.Length != length || size.Width > width || size.Hulls != len(hulls) {
			t.Fatalf("%v, width %d: %v and %d, measured %v", hulls, width, rows, length, size)
		}
	}
}
