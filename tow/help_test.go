package tow_test

import (
	"iter"
	"math"
	"math/rand"
	"slices"
	"testing"

	"thalweg/api"
	"thalweg/tow"
)

// to returns bounds, and only those of a single integer.
func to(low, high int) api.Bounds { return api.Bounds{Low: low, High: high} }

func only(n int) api.Bounds { return to(n, n) }

// hull returns a hull, or a boat.
func hull(length, width, mass int) api.TowHull {
	return api.TowHull{Length: length, Width: width, Mass: mass}
}

// boat is the boat of the chapter's examples.
var boat = hull(30, 10, 200)

// exampleTow returns the tow of the chapter's examples, as new memory.
func exampleTow() api.Tow {
	return api.Tow{Boat: boat, Power: 2000, Rows: [][]api.TowHull{{hull(80, 11, 2000), hull(80, 11, 2500)}, {hull(90, 12, 3000)}}}
}

// run returns a run without a wait.
func run(from, to int, speed api.Bounds) api.Run {
	return api.Run{From: from, To: to, Speed: speed}
}

// waits returns a run with a wait.
func waits(from, to int, speed, wait api.Bounds) api.Run {
	return api.Run{From: from, To: to, Speed: speed, Wait: wait}
}

// voyage returns a voyage of a tow that is 10 meters wide.
func voyage(start api.Bounds, length int, runs ...api.Run) api.Voyage {
	return api.Voyage{Start: start, Runs: runs, Length: length, Width: 10}
}

// first and second return the voyages of the chapter's examples, as new memory.
func first() api.Voyage { return voyage(to(0, 10), 200, run(0, 100, to(50, 100))) }

func second() api.Voyage { return voyage(only(20), 100, run(100, 0, only(100))) }

// single returns a narrow that holds a single tow only.
func single(from, to int) api.Narrow {
	return api.Narrow{From: from, To: to, Width: api.MaxTowWidth, Single: true}
}

// wide returns a narrow in which two tows may meet if they are not wider than it.
func wide(from, to, width int) api.Narrow { return api.Narrow{From: from, To: to, Width: width} }

// simple returns a voyage of 100 meters from 0 to 100 that needs a minute for a hectometer: its bow is at each place so many minutes after its start.
func simple(start api.Bounds) api.Voyage {
	return voyage(start, 100, run(0, 100, only(60)))
}

// numberCase is a number, and whether it is valid in its place.
type numberCase struct {
	n  int
	ok bool
}

// numberCases returns numbers that are, and are not, from low to high.
func numberCases(low, high int) []numberCase {
	var l []numberCase
	for _, n := range []int{low, (low + high) / 2, high, low - 1, high + 1, math.MinInt, math.MaxInt} {
		l = append(l, numberCase{n, low <= n && n <= high})
	}
	return l
}

// boundsCase are bounds, and whether they are valid in their place.
type boundsCase struct {
	b  api.Bounds
	ok bool
}

// boundsCases returns bounds that are, and are not, valid from low to high.
func boundsCases(low, high int) []boundsCase {
	var l []boundsCase
	for _, b := range []api.Bounds{only(low), to(low, high), only(high), to(low+1, high-1)} {
		l = append(l, boundsCase{b, true})
	}
	for _, b := range []api.Bounds{to(low+1, low), to(high, low), to(low-1, low), only(low - 1), to(low, high+1), only(high + 1), to(math.MinInt, math.MaxInt), to(math.MaxInt, math.MinInt)} {
		l = append(l, boundsCase{b, false})
	}
	return l
}

// errorUnless returns an error unless a condition holds.
func errorUnless(ok bool, e api.Errno) api.Errno {
	if ok {
		return api.OK
	}
	return e
}

// must returns a result, and fails if there is an error.
func must[T any](t *testing.T) func(x T, e api.Errno) T {
	return func(x T, e api.Errno) T {
		t.Helper()
		if e != api.OK {
			t.Fatalf("error %d", e)
		}
		return x
	}
}

// passing is what Through returns.
type passing struct {
	in, out api.Bounds
	passes  bool
}

// through calls Through.
func through(v api.Voyage, n api.Narrow) (passing, api.Errno) {
	in, out, passes, e := tow.Through(v, n)
	return passing{in, out, passes}, e
}

// later returns a voyage that is held back.
func later(v api.Voyage, minutes int) api.Voyage {
	v.Start.Low += minutes
	v.Start.High += minutes
	return v
}

// allLater returns voyages that are held back.
func allLater(l []api.Voyage, holds []int) []api.Voyage {
	var held []api.Voyage
	for i, v := range l {
		held = append(held, later(v, holds[i]))
	}
	return held
}

// total returns the sum of numbers.
func total(numbers []int) int {
	n := 0
	for _, x := range numbers {
		n += x
	}
	return n
}

// permutations yields the orders of so many things, from the smallest list on, as new memory.
func permutations(n int) iter.Seq[[]int] {
	return func(yield func([]int) bool) {
		l := make([]int, n)
		for i := range l {
			l[i] = i
		}
		for yield(slices.Clone(l)) {
			// The next list: the last number that can be greater is exchanged, and what follows ascends.
			i := n - 2
			for i >= 0 && l[i] > l[i+1] {
				i--
			}
			if i < 0 {
				return
			}
			j := n - 1
			for l[j] < l[i] {
				j--
			}
			l[i], l[j] = l[j], l[i]
			slices.Reverse(l[i+1:])
		}
	}
}

// some returns random bounds from low to high that are not far apart.
func some(g *rand.Rand, low, high, apart int) api.Bounds {
	a := low + g.Intn(high-low+1)
	return to(a, min(high, a+g.Intn(apart+1)))
}

// one returns bounds of a single random integer within bounds.
func one(g *rand.Rand, b api.Bounds) api.Bounds {
	return only(b.Low + g.Intn(b.High-b.Low+1))
}

// randomVoyage returns a voyage between two places, down or up, with one to three runs.
func randomVoyage(g *rand.Rand, top, bottom int) api.Voyage {
	stops := []int{top, bottom}
	for range g.Intn(3) {
		if at := top + 1 + g.Intn(bottom-top-1); !slices.Contains(stops, at) {
			stops = append(stops, at)
		}
	}
	slices.Sort(stops)
	if g.Intn(2) == 0 {
		slices.Reverse(stops)
	}
	v := api.Voyage{Start: some(g, 0, 30, 3), Length: 1 + g.Intn(350), Width: 1 + g.Intn(20)}
	for i, at := range stops[1:] {
		v.Runs = append(v.Runs, waits(stops[i], at, some(g, 20, 400, 2), some(g, 0, 9, 2)))
	}
	return v
}

// randomNarrow returns a narrow between two places.
func randomNarrow(g *rand.Rand, top, bottom int) api.Narrow {
	from := top + g.Intn(bottom-top)
	return api.Narrow{From: from, To: from + 1 + g.Intn(bottom-from), Width: 1 + g.Intn(40), Single: g.Intn(3) == 0}
}

// randomTraffic returns voyages of which some end before the last narrows, or begin after the first ones; few come near to one that they do not pass.
func randomTraffic(g *rand.Rand, voyages, narrows int) ([]api.Voyage, []api.Narrow) {
	var l []api.Voyage
	for range voyages {
		top, bottom := 0, 30
		switch g.Intn(20) {
		case 0, 1, 2, 3:
			top = 16
		case 4, 5, 6, 7:
			bottom = 14
		case 8:
			top = 8
		}
		l = append(l, randomVoyage(g, top, bottom))
	}
	var m []api.Narrow
	for range narrows {
		top := 4
		if g.Intn(2) == 0 {
			top = 20
		}
		m = append(m, randomNarrow(g, top, top+5))
	}
	return l, m
}

// truth returns a truth of a voyage: each of its bounds is a single integer.
func truth(g *rand.Rand, v api.Voyage) api.Voyage {
	v.Start = one(g, v.Start)
	v.Runs = slices.Clone(v.Runs)
	for i, r := range v.Runs {
		v.Runs[i].Speed, v.Runs[i].Wait = one(g, r.Speed), one(g, r.Wait)
	}
	return v
}

// truths yields all truths of a voyage.
func truths(v api.Voyage) iter.Seq[api.Voyage] {
	return func(yield func(api.Voyage) bool) {
		for n := v.Start.Low; n <= v.Start.High; n++ {
			x := v
			x.Start, x.Runs = only(n), slices.Clone(v.Runs)
			if !fix(x, 0, yield) {
				return
			}
		}
	}
}

// fix yields all truths of a voyage whose first runs are single integers, and reports whether more are wanted.
func fix(v api.Voyage, run int, yield func(api.Voyage) bool) bool {
	if run == len(v.Runs) {
		return yield(v)
	}
	r := v.Runs[run]
	defer func() { v.Runs[run] = r }()
	for speed := r.Speed.Low; speed <= r.Speed.High; speed++ {
		for wait := r.Wait.Low; wait <= r.Wait.High; wait++ {
			v.Runs[run].Speed, v.Runs[run].Wait = only(speed), only(wait)
			if !fix(v, run+1, yield) {
				return false
			}
		}
	}
	return true
}

// minuteAt returns the minute in which the bow of a truth is first at a place, hectometer by hectometer and minute by minute; or false if it is never there.
func minuteAt(v api.Voyage, place int) (int, bool) {
	minute := v.Start.Low
	if v.Runs[0].From == place {
		return minute, true
	}
	for _, r := range v.Runs {
		minute += r.Wait.Low
		step := 1
		if r.To < r.From {
			step = -1
		}
		sails := minute
		for way := 1; r.From+step*(way-1) != r.To; way++ {
			for (minute-sails)*r.Speed.Low < 60*way {
				minute++
			}
			if r.From+step*way == place {
				return minute, true
			}
		}
	}
	return 0, false
}

// arriveOf returns what Arrive returns, by all truths.
func arriveOf(v api.Voyage, place int) (api.Bounds, api.Errno) {
	all := to(math.MaxInt, math.MinInt)
	for x := range truths(v) {
		minute, there := minuteAt(x, place)
		if !there {
			return api.Bounds{}, api.ErrNone
		}
		all = to(min(all.Low, minute), max(all.High, minute))
	}
	return all, api.OK
}

// gatesOf returns the places of the bow when a voyage enters a narrow, and has left it.
func gatesOf(v api.Voyage, n api.Narrow) (in, out int) {
	tail := 0
	for 100*tail < v.Length {
		tail++
	}
	if v.Runs[0].From < v.Runs[0].To {
		return n.From, n.To + tail
	}
	return n.To, n.From - tail
}

// throughOf returns what Through returns, by all truths, and place by place.
func throughOf(v api.Voyage, n api.Narrow) (passing, api.Errno) {
	enter, leave := gatesOf(v, n)
	in, e1 := arriveOf(v, enter)
	out, e2 := arriveOf(v, leave)
	if e1 == api.OK && e2 == api.OK {
		return passing{in, out, true}, api.OK
	}
	// It comes near if some hectometer of its way is one of those between both places.
	low, high := min(enter, leave), max(enter, leave)
	for _, r := range v.Runs {
		for at := min(r.From, r.To); at < max(r.From, r.To); at++ {
			if low <= at && at < high {
				return passing{}, api.ErrState
			}
		}
	}
	return passing{}, api.OK
}
