package tow_test

import (
	"math"
	"math/rand"
	"slices"
	"testing"

	"thalweg/api"
	"thalweg/tow"
)

// voyageCase is a change of a voyage, and whether it is valid afterwards.
type voyageCase struct {
	name   string
	change func(v *api.Voyage)
	ok     bool
}

// threeRuns returns a valid voyage of three runs, as new memory.
func threeRuns() api.Voyage {
	return voyage(to(5, 9), 250, waits(10, 40, to(80, 90), to(0, 3)), waits(40, 60, to(20, 30), to(5, 5)), waits(60, 90, to(100, 110), only(0)))
}

// voyageNumbers returns changes of each number of a voyage, to and beyond its limits.
func voyageNumbers() []voyageCase {
	var l []voyageCase
	number := func(name string, low, high int, set func(v *api.Voyage, n int)) {
		for _, c := range numberCases(low, high) {
			l = append(l, voyageCase{name, func(v *api.Voyage) { set(v, c.n) }, c.ok})
		}
	}
	bounds := func(name string, low, high int, set func(v *api.Voyage, b api.Bounds)) {
		for _, c := range boundsCases(low, high) {
			l = append(l, voyageCase{name, func(v *api.Voyage) { set(v, c.b) }, c.ok})
		}
	}
	bounds("Start", 0, api.MaxMinute, func(v *api.Voyage, b api.Bounds) { v.Start = b })
	number("Length", 1, api.MaxTowLength, func(v *api.Voyage, n int) { v.Length = n })
	number("Width", 1, api.MaxTowWidth, func(v *api.Voyage, n int) { v.Width = n })
	for i := range 3 {
		bounds("Speed", 1, api.MaxSpeed, func(v *api.Voyage, b api.Bounds) { v.Runs[i].Speed = b })
		bounds("Wait", 0, api.MaxWait, func(v *api.Voyage, b api.Bounds) { v.Runs[i].Wait = b })
	}
	number("first From", 0, 39, func(v *api.Voyage, n int) { v.Runs[0].From = n })
	number("last To", 61, api.MaxPlace, func(v *api.Voyage, n int) { v.Runs[2].To = n })
	number("To and From", 41, 89, func(v *api.Voyage, n int) { v.Runs[1].To, v.Runs[2].From = n, n })
	return l
}

// placeCases returns changes of the runs of a voyage.
func placeCases() []voyageCase {
	runs := func(name string, ok bool, places ...int) voyageCase {
		return voyageCase{name, func(v *api.Voyage) {
			v.Runs = nil
			for i := 0; i < len(places); i += 2 {
				v.Runs = append(v.Runs, run(places[i], places[i+1], only(60)))
			}
		}, ok}
	}
	steps := func(n int) []int {
		var l []int
		for i := range n {
			l = append(l, i, i+1)
		}
		return l
	}
	return []voyageCase{
		runs("no runs", false), runs("the most runs", true, steps(api.MaxRuns)...), runs("too many runs", false, steps(api.MaxRuns+1)...),
		runs("one run down", true, 3, 4), runs("one run up", true, 4, 3), runs("one run to where it begins", false, 4, 4), runs("one run at the top", false, 0, 0),
		runs("the whole river down", true, 0, api.MaxPlace), runs("the whole river up", true, api.MaxPlace, 0), runs("up in two runs", true, 9, 5, 5, 0),
		runs("down, then up", false, 0, 5, 5, 3), runs("up, then down", false, 5, 3, 3, 4), runs("down, down, then up", false, 0, 5, 5, 6, 6, 2), runs("down, up, then down", false, 0, 5, 5, 3, 3, 9),
		runs("down, then nothing", false, 0, 5, 5, 5), runs("nothing, then down", false, 5, 5, 5, 9), runs("up, then nothing", false, 5, 3, 3, 3),
		runs("a gap", false, 0, 5, 6, 9), runs("a gap", false, 0, 5, 5, 7, 8, 9), runs("twice the same way", false, 0, 5, 4, 9), runs("a gap up", false, 9, 6, 5, 0), runs("twice the same way up", false, 9, 5, 6, 0), runs("the same run twice", false, 0, 5, 0, 5),
		runs("beyond the top", false, -1, 5), runs("beyond the top, up", false, 5, -1), runs("beyond the end", false, 5, api.MaxPlace+1), runs("beyond the end, up", false, api.MaxPlace+1, 5), runs("a stop beyond the end", false, 5, api.MaxPlace+1, api.MaxPlace+1, api.MaxPlace+2), runs("any places", false, math.MinInt, math.MaxInt), runs("any places", false, math.MaxInt, math.MinInt),
	}
}

// voyageCases returns changes of all that makes a voyage valid.
func voyageCases() []voyageCase { return append(voyageNumbers(), placeCases()...) }

// P3.5: Check returns ErrArg for each voyage that is not valid, and only for those.
func TestCheck(t *testing.T) {
	for _, c := range voyageCases() {
		v := threeRuns()
		c.change(&v)
		if e := tow.Check(v); e != errorUnless(c.ok, api.ErrArg) {
			t.Errorf("%s: %v: error %d", c.name, v, e)
		}
	}
	if e := tow.Check(api.Voyage{}); e != api.ErrArg {
		t.Error("no voyage:", e)
	}
}

// P3.5: the example of the chapter, both ends of a way, and the places where one run ends and the next one begins.
func TestArrive(t *testing.T) {
	stops := voyage(to(100, 110), 50, waits(10, 40, to(60, 120), to(1, 4)), waits(40, 50, to(30, 60), to(7, 9)), waits(50, 53, only(60), to(0, 100)))
	up := voyage(to(3, 4), 3000, waits(200, 100, only(300), only(2)), waits(100, 0, to(7, 11), only(0)))
	for _, c := range []struct {
		name  string
		v     api.Voyage
		place int
		want  api.Bounds
		e     api.Errno
	}{
		{"the example 4", first(), 50, to(30, 70), api.OK}, {"in the narrow", first(), 40, to(24, 58), api.OK}, {"out of the narrow", first(), 52, to(32, 73), api.OK},
		{"the example 5", second(), 50, only(50), api.OK}, {"the example 5, rounded", second(), 39, only(57), api.OK},
		{"the beginning", stops, 10, to(100, 110), api.OK}, {"a hectometer further", stops, 11, to(102, 115), api.OK}, {"the last one of the first run", stops, 39, to(116, 143), api.OK},
		{"the end of the first run", stops, 40, to(116, 144), api.OK}, {"a hectometer into the second run", stops, 41, to(124, 155), api.OK}, {"the end of the second run", stops, 50, to(133, 173), api.OK}, {"a hectometer into the third run", stops, 51, to(134, 274), api.OK}, {"the end", stops, 53, to(136, 276), api.OK},
		{"before the beginning", stops, 9, api.Bounds{}, api.ErrNone}, {"behind the end", stops, 54, api.Bounds{}, api.ErrNone},
		{"the beginning, up", up, 200, to(3, 4), api.OK}, {"a hectometer up", up, 199, to(6, 7), api.OK}, {"the end of the first run, up", up, 100, to(25, 26), api.OK}, {"into the second run, up", up, 99, to(31, 35), api.OK}, {"the end, up", up, 0, to(571, 884), api.OK},
		{"before the beginning, up", up, 201, api.Bounds{}, api.ErrNone}, {"behind the end, up", up, -1, api.Bounds{}, api.ErrNone}, {"anywhere", up, math.MinInt, api.Bounds{}, api.ErrNone}, {"anywhere", up, math.MaxInt, api.Bounds{}, api.ErrNone},
		{"the longest voyage", voyage(only(api.MaxMinute), 1, waits(0, api.MaxPlace, only(1), only(api.MaxWait))), api.MaxPlace, only(7005000), api.OK},
	} {
		if got, e := tow.Arrive(c.v, c.place); got != c.want || e != c.e {
			t.Errorf("%s: %v, error %d, want %v, error %d", c.name, got, e, c.want, c.e)
		}
	}
}

// smallVoyage returns a voyage that has few truths.
func smallVoyage(g *rand.Rand) api.Voyage {
	v := randomVoyage(g, 2, 26)
	v.Start.High = min(v.Start.High, v.Start.Low+1)
	for i := range v.Runs {
		v.Runs[i].Wait.High = min(v.Runs[i].Wait.High, v.Runs[i].Wait.Low+1)
	}
	return v
}

// P3.5, P3.11: Arrive returns the least and the greatest minute of all truths, at each place.
func TestArriveInAllTruths(t *testing.T) {
	g := rand.New(rand.NewSource(6))
	for range 40 {
		v := smallVoyage(g)
		for place := range 29 {
			want, e := arriveOf(v, place)
			if got, err := tow.Arrive(v, place); got != want || err != e {
				t.Fatalf("%v: place %d: %v, error %d, want %v, error %d", v, place, got, err, want, e)
			}
		}
	}
}

// P3.6: the examples of the chapter, and voyages that just pass, or just come near.
func TestThrough(t *testing.T) {
	down, up := voyage(only(0), 200, run(20, 60, only(60))), voyage(only(0), 200, run(60, 20, only(60)))
	stops := voyage(only(0), 150, run(20, 30, only(60)), waits(30, 34, only(60), only(100)), waits(34, 60, only(60), only(1000)))
	rises := voyage(only(0), 150, run(60, 34, only(60)), waits(34, 27, only(60), only(100)), waits(27, 20, only(60), only(1000)))
	is := func(in, out api.Bounds) passing { return passing{in, out, true} }
	for _, c := range []struct {
		name     string
		v        api.Voyage
		from, to int
		want     passing
		e        api.Errno
	}{
		{"the example 4", first(), 40, 50, is(to(24, 58), to(32, 73)), api.OK}, {"the example 5", second(), 40, 50, is(only(50), only(57)), api.OK},
		{"the whole way down", down, 20, 58, is(only(0), only(40)), api.OK}, {"begins in it", down, 19, 40, passing{}, api.ErrState}, {"ends in it", down, 30, 59, passing{}, api.ErrState}, {"begins and ends in it", down, 10, 100, passing{}, api.ErrState},
		{"begins at its end", down, 10, 20, passing{}, api.ErrState}, {"begins with the tail in it", down, 10, 19, passing{}, api.ErrState}, {"begins behind it", down, 10, 18, passing{}, api.OK}, {"begins far behind it", down, 0, 1, passing{}, api.OK},
		{"ends at its beginning", down, 60, 70, passing{}, api.OK}, {"ends just in it", down, 59, 70, passing{}, api.ErrState}, {"ends before it", down, 61, 70, passing{}, api.OK}, {"ends far before it", down, 99999, 100000, passing{}, api.OK},
		{"the whole way up", up, 22, 60, is(only(0), only(40)), api.OK}, {"begins in it, up", up, 40, 61, passing{}, api.ErrState}, {"ends in it, up", up, 21, 50, passing{}, api.ErrState}, {"begins and ends in it, up", up, 10, 100, passing{}, api.ErrState},
		{"begins at its end, up", up, 60, 70, passing{}, api.ErrState}, {"begins with the tail in it, up", up, 61, 70, passing{}, api.ErrState}, {"begins behind it, up", up, 62, 70, passing{}, api.OK}, {"begins far behind it, up", up, 99999, 100000, passing{}, api.OK},
		{"ends at its beginning, up", up, 10, 20, passing{}, api.OK}, {"ends just in it, up", up, 10, 21, passing{}, api.ErrState}, {"ends before it, up", up, 10, 19, passing{}, api.OK}, {"ends far before it, up", up, 0, 1, passing{}, api.OK},
		{"in and out between runs", stops, 30, 32, is(only(10), only(114)), api.OK}, {"into the next runs", stops, 31, 33, is(only(111), only(1115)), api.OK}, {"in and out between runs, up", rises, 29, 34, is(only(26), only(133)), api.OK}, {"into the next runs, up", rises, 26, 33, is(only(127), only(1136)), api.OK},
		{"the tail is above the river", voyage(only(0), 200, run(9, 0, only(60))), 1, 5, passing{}, api.ErrState}, {"the tail is just in the river", voyage(only(0), 200, run(9, 0, only(60))), 2, 5, is(only(4), only(9)), api.OK}, {"the tail is below the river", voyage(only(0), 200, run(9, api.MaxPlace, only(60))), 50, api.MaxPlace - 1, passing{}, api.ErrState},
	} {
		if got, e := through(c.v, wide(c.from, c.to, 1)); got != c.want || e != c.e {
			t.Errorf("%s: %v, error %d, want %v, error %d", c.name, got, e, c.want, c.e)
		}
	}
}

// P3.6: the tail is rounded up to hectometers.
func TestTail(t *testing.T) {
	for _, c := range []struct{ length, tail int }{{1, 1}, {99, 1}, {100, 1}, {101, 2}, {199, 2}, {200, 2}, {201, 3}, {2900, 29}, {2901, 30}, {3000, 30}} {
		down, up := voyage(only(0), c.length, run(0, 90, only(60))), voyage(only(0), c.length, run(90, 0, only(60)))
		if got, e := through(down, wide(40, 50, 20)); got != (passing{only(40), only(50 + c.tail), true}) || e != api.OK {
			t.Errorf("length %d, down: %v, error %d", c.length, got, e)
		}
		if got, e := through(up, wide(40, 50, 20)); got != (passing{only(40), only(50 + c.tail), true}) || e != api.OK {
			t.Errorf("length %d, up: %v, error %d", c.length, got, e)
		}
	}
}

// P3.6, P3.11: Through returns what all truths have, in each narrow.
func TestThroughInAllTruths(t *testing.T) {
	g := rand.New(rand.NewSource(7))
	counts := map[passing]int{}
	states := 0
	for range 40 {
		v := smallVoyage(g)
		for range 40 {
			n := randomNarrow(g, 0, 30)
			want, e := throughOf(v, n)
			if got, err := through(v, n); got != want || err != e {
				t.Fatalf("%v, %v: %v, error %d, want %v, error %d", v, n, got, err, want, e)
			}
			if e == api.ErrState {
				states++
			}
			counts[passing{passes: want.passes}]++
		}
	}
	if min(states, counts[passing{}], counts[passing{passes: true}]) < 100 {
		t.Error("too few that come near, or pass:", states, counts)
	}
}

// narrowCases returns narrows that are, and are not, valid.
func narrowCases() map[api.Narrow]bool {
	l := map[api.Narrow]bool{{}: false, wide(50, 50, 9): false, wide(51, 50, 9): false, wide(0, 0, 9): false, wide(math.MinInt, math.MaxInt, 9): false}
	for _, c := range numberCases(0, 49) {
		l[wide(c.n, 50, 9)] = c.ok
	}
	for _, c := range numberCases(51, api.MaxPlace) {
		l[wide(50, c.n, 9)] = c.ok
	}
	for _, c := range numberCases(1, api.MaxTowWidth) {
		l[wide(40, 50, c.n)] = c.ok
	}
	return l
}

// P3.6, P3.7: a narrow that is not valid.
func TestNarrowErrors(t *testing.T) {
	far := voyage(only(0), 100, run(99999, 100000, only(60)))
	for n, ok := range narrowCases() {
		for _, single := range []bool{false, true} {
			n.Single = single
			_, e := through(first(), n)
			if ok && e != api.ErrState && e != api.OK || !ok && e != api.ErrArg {
				t.Errorf("%v: error %d", n, e)
			}
			got, e := through(far, n)
			if (e == api.ErrArg) == ok || got.passes {
				t.Errorf("%v, far away: %v, error %d", n, got, e)
			}
			if may, must, e := tow.Meet(far, far, n); (e == api.ErrArg) == ok || may || must {
				t.Errorf("%v: meet %v, %v, error %d", n, may, must, e)
			}
		}
	}
}

// P3.7: the example of the chapter, and voyages that may, or must, just meet.
func TestMeet(t *testing.T) {
	// The windows in the narrow from 10 to 14 are those of the start, 10 minutes later, and 15 minutes later.
	n := wide(10, 14, api.MaxTowWidth)
	for _, c := range []struct {
		name      string
		a, b      api.Bounds
		may, must bool
	}{
		{"the same", only(0), only(0), true, true},
		{"the last minute", only(0), only(5), true, true}, {"a minute later", only(0), only(6), false, false},
		{"the last minute, by bounds", to(0, 3), to(8, 9), true, false}, {"a minute later, by bounds", to(0, 3), to(9, 10), false, false},
		{"must until the last minute", to(0, 2), to(0, 5), true, true}, {"must not any more", to(0, 2), to(0, 6), true, false}, {"must from the other one", to(2, 7), to(2, 2), true, true}, {"must not from the other one", to(2, 8), to(2, 2), true, false},
		{"long apart", only(0), only(500), false, false}, {"wide bounds", to(0, 1000), to(0, 1000), true, false}, {"within wide bounds", to(0, 1000), only(500), true, false},
	} {
		for _, turned := range []bool{false, true} {
			a, b := simple(c.a), simple(c.b)
			if turned {
				a, b = b, a
			}
			if may, must, e := tow.Meet(a, b, n); may != c.may || must != c.must || e != api.OK {
				t.Errorf("%s: %v, %v, error %d", c.name, may, must, e)
			}
		}
	}
	if may, must, e := tow.Meet(first(), second(), wide(40, 50, 20)); !may || must || e != api.OK {
		t.Error("the example 5:", may, must, e)
	}
}

// P3.7: voyages of which one does not pass do not meet; their widths, and whether the narrow is a single one, make no difference.
func TestMeetOfOthers(t *testing.T) {
	far := voyage(only(0), 100, run(50, 90, only(60)))
	for _, n := range []api.Narrow{single(10, 14), wide(10, 14, 1), wide(10, 14, api.MaxTowWidth)} {
		if may, must, e := tow.Meet(simple(only(0)), simple(only(1)), n); !may || !must || e != api.OK {
			t.Errorf("%v: %v, %v, error %d", n, may, must, e)
		}
		for _, c := range [][]api.Voyage{{simple(only(0)), far}, {far, simple(only(0))}, {far, far}} {
			if may, must, e := tow.Meet(c[0], c[1], n); may || must || e != api.OK {
				t.Errorf("%v, one is far away: %v, %v, error %d", n, may, must, e)
			}
		}
	}
}

// P3.7: a voyage that comes near has its error, also if the other one is far away.
func TestMeetErrors(t *testing.T) {
	passes, near, far := simple(only(0)), voyage(only(0), 100, run(12, 90, only(60))), voyage(only(0), 100, run(50, 90, only(60)))
	for _, other := range []api.Voyage{passes, near, far} {
		for _, c := range [][]api.Voyage{{near, other}, {other, near}} {
			if may, must, e := tow.Meet(c[0], c[1], single(10, 14)); may || must || e != api.ErrState {
				t.Errorf("%v: %v, %v, error %d", c, may, must, e)
			}
		}
	}
}

// P3.5 to P3.7: a voyage that is not valid has its error before any other one.
func TestVoyageErrorIsFirst(t *testing.T) {
	near := voyage(only(0), 100, run(12, 90, only(60)))
	for _, c := range voyageCases() {
		if c.ok {
			continue
		}
		v := threeRuns()
		c.change(&v)
		for _, place := range []int{-1, 0, 50} {
			if b, e := tow.Arrive(v, place); b != (api.Bounds{}) || e != api.ErrArg {
				t.Errorf("%s: Arrive: %v, error %d", c.name, b, e)
			}
		}
		for _, n := range []api.Narrow{{}, single(10, 14), single(200, 300)} {
			if got, e := through(v, n); got != (passing{}) || e != api.ErrArg {
				t.Errorf("%s: Through: %v, error %d", c.name, got, e)
			}
			for _, l := range [][]api.Voyage{{v, v}, {v, near}, {near, v}, {v, first()}, {first(), v}} {
				if may, must, e := tow.Meet(l[0], l[1], n); may || must || e != api.ErrArg {
					t.Errorf("%s: Meet: %v, %v, error %d", c.name, may, must, e)
				}
			}
		}
	}
}

// P3.7: Meet compares what Through returns.
func TestMeetByWindows(t *testing.T) {
	g := rand.New(rand.NewSource(8))
	counts := map[[2]bool]int{}
	for range 4000 {
		l, narrows := randomTraffic(g, 2, 1)
		x, e1 := through(l[0], narrows[0])
		y, e2 := through(l[1], narrows[0])
		may, must, e := tow.Meet(l[0], l[1], narrows[0])
		if want := max(e1, e2); e != want || e != api.OK && (may || must) {
			t.Fatalf("%v, %v: %v, %v, error %d, want error %d", l, narrows, may, must, e, want)
		}
		both := x.passes && y.passes
		wantMay := both && x.in.Low <= y.out.High && y.in.Low <= x.out.High
		wantMust := both && x.in.High <= y.out.Low && y.in.High <= x.out.Low
		if e == api.OK && (may != wantMay || must != wantMust) {
			t.Fatalf("%v, %v: %v, %v, want %v, %v", l, narrows, may, must, wantMay, wantMust)
		}
		counts[[2]bool{may, must}]++
	}
	for _, c := range [][2]bool{{false, false}, {true, false}, {true, true}} {
		if counts[c] < 50 {
			t.Error("too few that may meet, or must:", counts)
		}
	}
}

// P3.11: whatever speeds are allowed, voyages that may not meet are never both in a narrow, and those that must meet are.
func TestMeetInTruths(t *testing.T) {
	g := rand.New(rand.NewSource(9))
	never, always := 0, 0
	for range 3000 {
		l, narrows := randomTraffic(g, 2, 1)
		n := narrows[0]
		may, must, e := tow.Meet(l[0], l[1], n)
		if e != api.OK || may && !must {
			continue
		}
		for range 3 {
			together := bothInside(truth(g, l[0]), truth(g, l[1]), n)
			if together != must {
				t.Fatalf("%v, %v: may %v, must %v, but both are in it: %v", l, n, may, must, together)
			}
		}
		if must {
			always++
		} else {
			never++
		}
	}
	if min(never, always) < 100 {
		t.Error("only", never, "never meet, and", always, "always")
	}
}

// bothInside reports whether two truths are in a narrow in the same minute.
func bothInside(a, b api.Voyage, n api.Narrow) bool {
	minutes := func(v api.Voyage) (l []int) {
		enter, leave := gatesOf(v, n)
		in, passes := minuteAt(v, enter)
		out, leaves := minuteAt(v, leave)
		for minute := in; passes && leaves && minute <= out; minute++ {
			l = append(l, minute)
		}
		return l
	}
	other := minutes(b)
	return slices.ContainsFunc(minutes(a), func(minute int) bool { return slices.Contains(other, minute) })
}
