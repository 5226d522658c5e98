package tow_test

import (
	"math/rand"
	"slices"
	"testing"

	"thalweg/api"
	"thalweg/tow"
)

// meeting returns a meeting.
func meeting(first, second, narrow int) api.Meeting {
	return api.Meeting{First: first, Second: second, Narrow: narrow}
}

// as returns a voyage with another width.
func as(width int, v api.Voyage) api.Voyage {
	v.Width = width
	return v
}

// at returns voyages that need a minute for a hectometer, and start in these minutes.
func at(minutes ...int) []api.Voyage {
	var l []api.Voyage
	for _, minute := range minutes {
		l = append(l, simple(only(minute)))
	}
	return l
}

// P3.8: the order of the meetings, and who must not meet where.
func TestConflicts(t *testing.T) {
	far := voyage(only(0), 100, run(200, 300, only(60)))
	for _, c := range []struct {
		name    string
		l       []api.Voyage
		narrows []api.Narrow
		want    []api.Meeting
	}{
		{"the example 5", []api.Voyage{first(), second()}, []api.Narrow{single(40, 50)}, []api.Meeting{meeting(0, 1, 0)}},
		{"wide enough", []api.Voyage{first(), second()}, []api.Narrow{wide(40, 50, 20)}, nil}, {"not wide enough", []api.Voyage{first(), second()}, []api.Narrow{wide(40, 50, 19)}, []api.Meeting{meeting(0, 1, 0)}},
		{"both widths", []api.Voyage{as(7, simple(only(0))), as(6, simple(only(0))), as(8, simple(only(0)))}, []api.Narrow{wide(10, 14, 13)}, []api.Meeting{meeting(0, 2, 0), meeting(1, 2, 0)}},
		{"wider than the narrow, alone", []api.Voyage{as(200, simple(only(0)))}, []api.Narrow{wide(10, 14, 1), single(20, 21)}, nil},
		{"single, and wide enough", []api.Voyage{as(1, simple(only(0))), as(1, simple(only(0)))}, []api.Narrow{single(10, 14)}, []api.Meeting{meeting(0, 1, 0)}},
		{"the last minute", at(0, 5), []api.Narrow{single(10, 14)}, []api.Meeting{meeting(0, 1, 0)}}, {"a minute later", at(0, 6), []api.Narrow{single(10, 14)}, nil}, {"a minute earlier", at(6, 0), []api.Narrow{single(10, 14)}, nil}, {"the first minute", at(5, 0), []api.Narrow{single(10, 14)}, []api.Meeting{meeting(0, 1, 0)}},
		{"all of them", at(0, 1, 2), []api.Narrow{single(10, 14), single(20, 22)}, []api.Meeting{meeting(0, 1, 0), meeting(0, 1, 1), meeting(0, 2, 0), meeting(0, 2, 1), meeting(1, 2, 0), meeting(1, 2, 1)}},
		{"some of them", at(4, 0, 9), []api.Narrow{single(20, 21), single(10, 14)}, []api.Meeting{meeting(0, 1, 1), meeting(0, 2, 1)}},
		{"the same narrow twice", at(0, 0), []api.Narrow{single(10, 14), wide(10, 14, 20), single(10, 14)}, []api.Meeting{meeting(0, 1, 0), meeting(0, 1, 2)}},
		{"one is far away", []api.Voyage{simple(only(0)), far, simple(only(0))}, []api.Narrow{single(10, 14), single(220, 230)}, []api.Meeting{meeting(0, 2, 0)}},
		{"no narrows", at(0, 0), nil, nil}, {"no voyages", nil, []api.Narrow{single(10, 14)}, nil}, {"nothing", nil, nil, nil},
	} {
		if got, e := tow.Conflicts(c.l, c.narrows); !slices.Equal(got, c.want) || e != api.OK {
			t.Errorf("%s: %v, error %d, want %v", c.name, got, e, c.want)
		}
	}
}

// mustNotMeet reports whether two voyages must not meet in a narrow.
func mustNotMeet(a, b api.Voyage, n api.Narrow) bool { return n.Single || a.Width+b.Width > n.Width }

// P3.8: the conflicts are those of all pairs and narrows, one after another.
func TestConflictsByMeet(t *testing.T) {
	g := rand.New(rand.NewSource(10))
	some := 0
	for range 1000 {
		l, narrows := randomTraffic(g, g.Intn(6), g.Intn(6))
		want, e := []api.Meeting(nil), api.OK
		for i, a := range l {
			for _, n := range narrows {
				if _, err := through(a, n); err != api.OK {
					e = err
				}
			}
			for j, b := range l[:i] {
				for k, n := range narrows {
					if may, _, err := tow.Meet(a, b, n); err == api.OK && may && mustNotMeet(a, b, n) {
						want = append(want, meeting(j, i, k))
					}
				}
			}
		}
		slices.SortFunc(want, func(a, b api.Meeting) int {
			return slices.Compare([]int{a.First, a.Second, a.Narrow}, []int{b.First, b.Second, b.Narrow})
		})
		if e != api.OK {
			want = nil
		}
		if got, err := tow.Conflicts(l, narrows); !slices.Equal(got, want) || err != e {
			t.Fatalf("%v, %v: %v, error %d, want %v, error %d", l, narrows, got, err, want, e)
		}
		if len(want) > 1 {
			some++
		}
	}
	if some < 100 {
		t.Error("only", some, "with conflicts")
	}
}

// P3.9: the example of the chapter, and the least holds.
func TestHolds(t *testing.T) {
	last := simple(only(api.MaxMinute))
	for _, c := range []struct {
		name    string
		l       []api.Voyage
		narrows []api.Narrow
		most    int
		want    []int
		at      int
		e       api.Errno
	}{
		{"the example 5", []api.Voyage{first(), second()}, []api.Narrow{single(40, 50)}, 5000, []int{0, 24}, 0, api.OK}, {"just enough", []api.Voyage{first(), second()}, []api.Narrow{single(40, 50)}, 24, []int{0, 24}, 0, api.OK}, {"not enough", []api.Voyage{first(), second()}, []api.Narrow{single(40, 50)}, 23, nil, 1, api.ErrNone},
		{"the example 5, the other way round", []api.Voyage{second(), first()}, []api.Narrow{single(40, 50)}, 5000, []int{0, 34}, 0, api.OK},
		// Each one is in the narrow from the minute 10 after its start until the minute 15.
		{"one after another", at(0, 0, 0, 0), []api.Narrow{single(10, 14)}, 18, []int{0, 6, 12, 18}, 0, api.OK}, {"the last one has none", at(0, 0, 0, 0), []api.Narrow{single(10, 14)}, 17, nil, 3, api.ErrNone}, {"the third one has none", at(0, 0, 0, 0), []api.Narrow{single(10, 14)}, 11, nil, 2, api.ErrNone}, {"the second one has none", at(0, 0, 0, 0), []api.Narrow{single(10, 14)}, 0, nil, 1, api.ErrNone},
		{"no hold is needed", at(0, 6, 12), []api.Narrow{single(10, 14)}, 0, []int{0, 0, 0}, 0, api.OK}, {"before the first one", at(6, 0), []api.Narrow{single(10, 14)}, 0, []int{0, 0}, 0, api.OK}, {"not before the first one", at(5, 0), []api.Narrow{single(10, 14)}, 5000, []int{0, 11}, 0, api.OK},
		{"between two", at(0, 12, 3), []api.Narrow{single(10, 14)}, 5000, []int{0, 0, 3}, 0, api.OK}, {"not between two", at(0, 11, 3), []api.Narrow{single(10, 14)}, 5000, []int{0, 0, 14}, 0, api.OK}, {"behind one, then the other one", at(11, 5, 0), []api.Narrow{single(10, 14)}, 5000, []int{0, 0, 17}, 0, api.OK},
		{"held back into the way of others", at(0, 0, 3), []api.Narrow{single(10, 14)}, 5000, []int{0, 6, 9}, 0, api.OK},
		{"wide enough", at(0, 0, 0), []api.Narrow{wide(10, 14, 20)}, 0, []int{0, 0, 0}, 0, api.OK}, {"not wide enough", at(0, 0), []api.Narrow{wide(10, 14, 19)}, 5000, []int{0, 6}, 0, api.OK},
		{"by the longest narrow", at(0, 0), []api.Narrow{single(10, 14), single(20, 39), single(50, 52)}, 5000, []int{0, 21}, 0, api.OK},
		{"a wide one is in the way", []api.Voyage{as(9, simple(only(0))), as(2, simple(only(0))), as(8, simple(only(0)))}, []api.Narrow{wide(10, 14, 16)}, 5000, []int{0, 0, 6}, 0, api.OK},
		{"later than any start", []api.Voyage{last, last, last}, []api.Narrow{single(10, 14)}, 5000, []int{0, 6, 12}, 0, api.OK},
		{"all voyages", slices.Repeat(at(0), api.MaxVoyages), []api.Narrow{single(10, 14)}, 66, []int{0, 6, 12, 18, 24, 30, 36, 42, 48, 54, 60, 66}, 0, api.OK},
		{"no narrows", at(0, 0), nil, 0, []int{0, 0}, 0, api.OK}, {"one voyage", at(0), []api.Narrow{single(10, 14)}, 0, []int{0}, 0, api.OK}, {"no voyages", nil, []api.Narrow{single(10, 14)}, 0, nil, 0, api.OK}, {"nothing", nil, nil, 0, nil, 0, api.OK},
	} {
		if got, at, e := tow.Holds(c.l, c.narrows, c.most); !slices.Equal(got, c.want) || at != c.at || e != c.e {
			t.Errorf("%s: %v, %d, error %d, want %v, %d, error %d", c.name, got, at, e, c.want, c.at, c.e)
		}
	}
}

// P3.9: the greatest hold that can be allowed.
func TestLongestHold(t *testing.T) {
	for _, c := range []struct {
		wait, most int
		want       []int
		at         int
		e          api.Errno
	}{
		{4978, 5000, []int{0, 4999}, 0, api.OK}, {4978, 4999, []int{0, 4999}, 0, api.OK}, {4978, 4998, nil, 1, api.ErrNone},
		{4979, 5000, []int{0, 5000}, 0, api.OK}, {4979, 4999, nil, 1, api.ErrNone}, {4980, 5000, nil, 1, api.ErrNone},
	} {
		// The first voyage waits with its tail in the narrow, which the second one reaches in the minute 1.
		l := []api.Voyage{voyage(only(0), 100, run(0, 20, only(60)), waits(20, 60, only(60), only(c.wait))), simple(only(0))}
		if got, at, e := tow.Holds(l, []api.Narrow{single(1, 20)}, c.most); !slices.Equal(got, c.want) || at != c.at || e != c.e {
			t.Errorf("wait %d, most %d: %v, %d, error %d, want %v, %d, error %d", c.wait, c.most, got, at, e, c.want, c.at, c.e)
		}
	}
}

// windowsOf returns what Through returns for each voyage in each narrow, or ErrState if one of them comes near.
func windowsOf(l []api.Voyage, narrows []api.Narrow) ([][]passing, api.Errno) {
	var all [][]passing
	for _, v := range l {
		var windows []passing
		for _, n := range narrows {
			x, e := through(v, n)
			if e != api.OK {
				return nil, e
			}
			windows = append(windows, x)
		}
		all = append(all, windows)
	}
	return all, api.OK
}

// holdsOf returns what Holds returns for an order of voyages, by their numbers, minute by minute; or the first voyage for which there is none.
func holdsOf(l []api.Voyage, narrows []api.Narrow, windows [][]passing, order []int, most int) (holds []int, at int, ok bool) {
	holds = make([]int, len(l))
	free := func(a, b int) bool {
		for k, n := range narrows {
			x, y := windows[a][k], windows[b][k]
			if x.passes && y.passes && mustNotMeet(l[a], l[b], n) && x.in.Low+holds[a] <= y.out.High+holds[b] && y.in.Low+holds[b] <= x.out.High+holds[a] {
				return false
			}
		}
		return true
	}
	for i, a := range order {
		conflict := func(b int) bool { return !free(a, b) }
		for slices.ContainsFunc(order[:i], conflict) {
			if holds[a]++; holds[a] > most {
				return nil, a, false
			}
		}
	}
	return holds, 0, true
}

// P3.9: of all numbers of minutes, from 0 on, each hold is the least one with which there is no conflict.
func TestHoldsByMinutes(t *testing.T) {
	g := rand.New(rand.NewSource(11))
	held, none := 0, 0
	for range 3000 {
		l, narrows := randomTraffic(g, g.Intn(7), g.Intn(6))
		most := g.Intn(1 + g.Intn(200))
		got, at, e := tow.Holds(l, narrows, most)
		windows, err := windowsOf(l, narrows)
		if err != api.OK {
			if len(got) > 0 || at != 0 || e != err {
				t.Fatalf("%v, %v: %v, %d, error %d, want error %d", l, narrows, got, at, e, err)
			}
			continue
		}
		var order []int
		for i := range l {
			order = append(order, i)
		}
		want, first, ok := holdsOf(l, narrows, windows, order, most)
		if !slices.Equal(got, want) || at != first || e != errorUnless(ok, api.ErrNone) {
			t.Fatalf("%v, %v, most %d: %v, %d, error %d, want %v, %d", l, narrows, most, got, at, e, want, first)
		}
		if !ok {
			none++
		} else if total(want) > 0 {
			held++
		}
	}
	if min(held, none) < 100 {
		t.Error("only", held, "held back, and", none, "without holds")
	}
}

// wantOrder fails unless Order returns an order, its holds and their sum, or an error and nothing else.
func wantOrder(t *testing.T, name string, l []api.Voyage, narrows []api.Narrow, most int, order, holds []int, sum int, e api.Errno) {
	t.Helper()
	a, b, n, err := tow.Order(l, narrows, most)
	if !slices.Equal(a, order) || !slices.Equal(b, holds) || n != sum || err != e {
		t.Errorf("%s: %v, %v, %d, error %d, want %v, %v, %d, error %d", name, a, b, n, err, order, holds, sum, e)
	}
}

// P3.10: the order with the least holds in all, and the smallest of several.
func TestOrder(t *testing.T) {
	n := []api.Narrow{single(10, 14)}
	long := func(minute int) api.Voyage { return voyage(only(minute), 600, run(0, 100, only(60))) }
	for _, c := range []struct {
		name    string
		l       []api.Voyage
		narrows []api.Narrow
		most    int
		order   []int
		holds   []int
		sum     int
		e       api.Errno
	}{
		{"the example 5", []api.Voyage{first(), second()}, []api.Narrow{single(40, 50)}, 5000, []int{0, 1}, []int{0, 24}, 24, api.OK}, {"the example 5, the other way round", []api.Voyage{second(), first()}, []api.Narrow{single(40, 50)}, 5000, []int{1, 0}, []int{24, 0}, 24, api.OK}, {"only one way is allowed", []api.Voyage{second(), first()}, []api.Narrow{single(40, 50)}, 24, []int{1, 0}, []int{24, 0}, 24, api.OK}, {"none is allowed", []api.Voyage{second(), first()}, []api.Narrow{single(40, 50)}, 23, nil, nil, 0, api.ErrNone},
		{"all the same", at(0, 0, 0), n, 5000, []int{0, 1, 2}, []int{0, 6, 12}, 18, api.OK}, {"no conflicts", at(12, 0, 6), n, 0, []int{0, 1, 2}, []int{0, 0, 0}, 0, api.OK}, {"no narrows", at(0, 0, 0), nil, 0, []int{0, 1, 2}, []int{0, 0, 0}, 0, api.OK},
		// Voyages of 600 meters are in the narrow for 11 minutes.
		{"the short ones first", []api.Voyage{long(0), simple(only(0)), simple(only(0))}, n, 5000, []int{1, 2, 0}, []int{12, 0, 6}, 18, api.OK}, {"the earlier one first", at(3, 0), n, 5000, []int{1, 0}, []int{3, 0}, 3, api.OK},
		{"the least sum is not allowed", []api.Voyage{long(0), simple(only(0)), simple(only(0))}, n, 11, nil, nil, 0, api.ErrNone}, {"just allowed", []api.Voyage{long(0), simple(only(0)), simple(only(0))}, n, 12, []int{1, 2, 0}, []int{12, 0, 6}, 18, api.OK},
		{"the smaller list, and not the smaller holds", at(0, 3), []api.Narrow{single(10, 14)}, 5000, []int{0, 1}, []int{0, 3}, 3, api.OK}, {"two in the middle", at(20, 0, 0, 40), n, 5000, []int{0, 1, 2, 3}, []int{0, 0, 6, 0}, 6, api.OK},
		{"the most voyages", at(5, 4, 3, 2, 1, 0), n, 5000, []int{5, 0, 1, 2, 3, 4}, []int{1, 8, 15, 22, 29, 0}, 75, api.OK},
		{"one voyage", at(7), n, 0, []int{0}, []int{0}, 0, api.OK}, {"no voyages", nil, n, 0, nil, nil, 0, api.OK}, {"nothing", nil, nil, 0, nil, nil, 0, api.OK},
	} {
		wantOrder(t, c.name, c.l, c.narrows, c.most, c.order, c.holds, c.sum, c.e)
	}
}

// P3.10: of all orders, the one with the least holds in all, minute by minute, and the smallest list.
func TestOrderOfAll(t *testing.T) {
	g := rand.New(rand.NewSource(12))
	moved, none := 0, 0
	for range 2500 {
		l, narrows := randomTraffic(g, g.Intn(5), g.Intn(4))
		most := g.Intn(1 + g.Intn(120))
		windows, err := windowsOf(l, narrows)
		if err != api.OK {
			wantOrder(t, "near", l, narrows, most, nil, nil, 0, err)
			continue
		}
		var order, holds []int
		found := false
		for x := range permutations(len(l)) {
			h, _, ok := holdsOf(l, narrows, windows, x, most)
			if ok && (!found || total(h) < total(holds)) {
				order, holds, found = x, h, true
			}
		}
		wantOrder(t, "random", l, narrows, most, order, holds, total(holds), errorUnless(found, api.ErrNone))
		if !found {
			none++
		} else if !slices.IsSorted(order) {
			moved++
		}
	}
	if min(moved, none) < 50 {
		t.Error("only", moved, "in another order, and", none, "without one")
	}
}

// trafficCase is voyages, narrows and a number of minutes, with the error of Conflicts, Holds and Order.
type trafficCase struct {
	name                    string
	l                       []api.Voyage
	narrows                 []api.Narrow
	most                    int
	conflicts, holds, order api.Errno
}

// P3.8 to P3.10: the errors, in the order in which they are listed.
func TestTrafficErrors(t *testing.T) {
	bad := api.Voyage{Start: to(2, 1)}
	near := voyage(only(0), 100, run(12, 90, only(60)))
	n, wrong := single(10, 14), single(14, 14)
	many := func(n int, v api.Voyage) []api.Voyage { return slices.Repeat([]api.Voyage{v}, n) }
	narrows := func(k int, n api.Narrow) []api.Narrow { return slices.Repeat([]api.Narrow{n}, k) }
	for _, c := range []trafficCase{
		{"good", at(0, 6), []api.Narrow{n}, 0, api.OK, api.OK, api.OK},
		{"the most ordered", many(6, at(0)[0]), []api.Narrow{n}, 5000, api.OK, api.OK, api.OK}, {"too many ordered", many(7, at(0)[0]), []api.Narrow{n}, 5000, api.OK, api.OK, api.ErrLong},
		{"the most voyages", many(12, at(0)[0]), []api.Narrow{n}, 5000, api.OK, api.OK, api.ErrLong}, {"too many voyages", many(13, at(0)[0]), []api.Narrow{n}, 5000, api.ErrLong, api.ErrLong, api.ErrLong},
		{"the most narrows", at(0, 6), narrows(20, n), 0, api.OK, api.OK, api.OK}, {"too many narrows", at(0, 6), narrows(21, n), 0, api.ErrLong, api.ErrLong, api.ErrLong}, {"too many narrows only", nil, narrows(21, n), 0, api.ErrLong, api.ErrLong, api.ErrLong},
		{"too many, and bad voyages", many(13, bad), []api.Narrow{wrong}, -1, api.ErrLong, api.ErrLong, api.ErrLong}, {"too many, and bad narrows", []api.Voyage{bad}, narrows(21, wrong), -1, api.ErrLong, api.ErrLong, api.ErrLong}, {"too many ordered, and bad", many(7, bad), []api.Narrow{wrong}, -1, api.ErrArg, api.ErrArg, api.ErrLong},
		{"a bad voyage", []api.Voyage{bad, near}, []api.Narrow{n}, -1, api.ErrArg, api.ErrArg, api.ErrArg}, {"a last bad voyage", []api.Voyage{near, bad}, []api.Narrow{n}, -1, api.ErrArg, api.ErrArg, api.ErrArg}, {"a bad voyage alone", []api.Voyage{bad}, nil, 0, api.ErrArg, api.ErrArg, api.ErrArg},
		{"a bad narrow", []api.Voyage{near}, []api.Narrow{wrong, n}, -1, api.ErrArg, api.ErrArg, api.ErrArg}, {"a last bad narrow", []api.Voyage{near}, []api.Narrow{n, wrong}, -1, api.ErrArg, api.ErrArg, api.ErrArg}, {"a bad narrow alone", nil, []api.Narrow{wrong}, 0, api.ErrArg, api.ErrArg, api.ErrArg},
		{"near", []api.Voyage{near, at(0)[0]}, []api.Narrow{n}, -1, api.ErrState, api.ErrState, api.ErrState}, {"a last one near", []api.Voyage{at(0)[0], near}, []api.Narrow{single(30, 40), n}, 5001, api.ErrState, api.ErrState, api.ErrState}, {"near alone", []api.Voyage{near}, []api.Narrow{n}, 0, api.ErrState, api.ErrState, api.ErrState}, {"near to a wide one", []api.Voyage{near}, []api.Narrow{wide(10, 14, 200)}, 0, api.ErrState, api.ErrState, api.ErrState},
		{"bad minutes, and no holds", at(0, 0), []api.Narrow{n}, -1, api.OK, api.ErrRange, api.ErrRange}, {"bad minutes alone", nil, nil, -1, api.OK, api.ErrRange, api.ErrRange},
		{"no holds", at(0, 0), []api.Narrow{n}, 5, api.OK, api.ErrNone, api.ErrNone},
	} {
		wantTrafficErrors(t, c)
	}
	for _, c := range numberCases(0, api.MaxWait) {
		e := errorUnless(c.ok, api.ErrRange)
		wantTrafficErrors(t, trafficCase{"minutes", at(0, 6), []api.Narrow{n}, c.n, api.OK, e, e})
	}
	for x, ok := range narrowCases() {
		e := errorUnless(ok, api.ErrArg)
		wantTrafficErrors(t, trafficCase{"a narrow", nil, []api.Narrow{n, x}, 0, e, e, e})
	}
	for _, c := range voyageCases() {
		v, e := threeRuns(), errorUnless(c.ok, api.ErrArg)
		c.change(&v)
		wantTrafficErrors(t, trafficCase{c.name, []api.Voyage{threeRuns(), v, threeRuns()}, nil, 0, e, e, e})
	}
}

// wantTrafficErrors fails unless Conflicts, Holds and Order return these errors, and nothing else with them.
func wantTrafficErrors(t *testing.T, c trafficCase) {
	t.Helper()
	meetings, e1 := tow.Conflicts(c.l, c.narrows)
	holds, at, e2 := tow.Holds(c.l, c.narrows, c.most)
	order, others, sum, e3 := tow.Order(c.l, c.narrows, c.most)
	if e1 != c.conflicts || e2 != c.holds || e3 != c.order {
		t.Errorf("%s: errors %d, %d, %d, want %d, %d, %d", c.name, e1, e2, e3, c.conflicts, c.holds, c.order)
	}
	if e1 != api.OK && len(meetings) > 0 || e2 != api.OK && (len(holds) > 0 || e2 != api.ErrNone && at != 0) || e3 != api.OK && (len(order) > 0 || len(others) > 0 || sum != 0) {
		t.Errorf("%s: results beside errors: %v; %v, %d; %v, %v, %d", c.name, meetings, holds, at, order, others, sum)
	}
}

// P3.12: after Holds no two voyages have a conflict; with one minute less, a voyage has one with a voyage before it.
func TestNoConflictsAfterHolds(t *testing.T) {
	g := rand.New(rand.NewSource(13))
	held := 0
	for range 2000 {
		l, narrows := randomTraffic(g, 2+g.Intn(5), 1+g.Intn(5))
		holds, _, e := tow.Holds(l, narrows, api.MaxWait)
		if e != api.OK {
			continue
		}
		after := allLater(l, holds)
		if m := must[[]api.Meeting](t)(tow.Conflicts(after, narrows)); len(m) > 0 {
			t.Fatalf("%v, %v: held back by %v: %v", l, narrows, holds, m)
		}
		for i, minutes := range holds {
			if minutes == 0 {
				continue
			}
			held++
			before := append(slices.Clone(after[:i]), later(l[i], minutes-1))
			if m := must[[]api.Meeting](t)(tow.Conflicts(before, narrows)); len(m) == 0 {
				t.Fatalf("%v, %v: %v: one minute less is enough for %d", l, narrows, holds, i)
			}
		}
	}
	if held < 100 {
		t.Error("only", held, "voyages were held back")
	}
}

// P3.12: Order needs no more minutes than Holds for any list of the same voyages.
func TestNoBetterOrder(t *testing.T) {
	g := rand.New(rand.NewSource(14))
	better := 0
	for range 400 {
		l, narrows := randomTraffic(g, 1+g.Intn(5), 1+g.Intn(3))
		most := 20 + g.Intn(100)
		order, holds, sum, e := tow.Order(l, narrows, most)
		if e == api.ErrState {
			continue
		}
		for x := range permutations(len(l)) {
			var list []api.Voyage
			for _, i := range x {
				list = append(list, l[i])
			}
			h, _, err := tow.Holds(list, narrows, most)
			if err == api.OK && (e != api.OK || total(h) < sum || total(h) == sum && slices.Compare(x, order) < 0) {
				t.Fatalf("%v, %v: %v, %d, error %d, but %v needs %v", l, narrows, order, sum, e, x, h)
			}
			if err == api.OK && total(h) > sum {
				better++
			}
			if slices.Equal(x, order) {
				wantHolds(t, x, h, holds)
			}
		}
		if total(holds) != sum {
			t.Fatalf("%v, %v: %v, their sum is not %d", l, narrows, holds, sum)
		}
	}
	if better < 100 {
		t.Error("only", better, "orders are worse")
	}
}

// wantHolds fails unless the holds of a list in an order are those of the voyages.
func wantHolds(t *testing.T, order, list, holds []int) {
	t.Helper()
	for i, voyage := range order {
		if list[i] != holds[voyage] {
			t.Fatalf("order %v: %v, but Holds %v", order, holds, list)
		}
	}
}
