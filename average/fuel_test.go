package average_test

import (
	"math/rand"
	"slices"
	"testing"

	"thalweg/api"
)

// soundings returns soundings of triples: a minute, and the least and the greatest number of liters.
func soundings(l ...int) []api.Sounding {
	var all []api.Sounding
	for i := 0; i < len(l); i += 3 {
		all = append(all, sounding(l[i], l[i+1], l[i+2]))
	}
	return all
}

// bunkers returns bunkers of pairs: a minute, and liters.
func bunkers(l ...int) []api.Bunker {
	var all []api.Bunker
	for i := 0; i < len(l); i += 2 {
		all = append(all, bunker(l[i], l[i+1]))
	}
	return all
}

// P8.5: what was burned, as in the example, and which bunkers count.
func TestBurned(t *testing.T) {
	three := soundings(10, 100, 110, 20, 60, 80, 30, 30, 35)
	for _, c := range []struct {
		name     string
		t        tank
		from, to int
		want     burned
	}{
		{"the example", exampleTank(), 0, 1, burned{b: api.Bounds{Low: 230, High: 260}}},
		{"without bunkers", tank{three, nil}, 0, 1, burned{b: api.Bounds{Low: 20, High: 50}}},
		{"the second span", tank{three, nil}, 1, 2, burned{b: api.Bounds{Low: 25, High: 50}}},
		{"both spans, without the sounding in between", tank{three, nil}, 0, 2, burned{b: api.Bounds{Low: 65, High: 80}}},
		{"a bunker before the first sounding", tank{three, bunkers(9, 7)}, 0, 1, burned{b: api.Bounds{Low: 20, High: 50}}},
		{"a bunker in the minute of the first sounding", tank{three, bunkers(10, 7)}, 0, 1, burned{b: api.Bounds{Low: 20, High: 50}}},
		{"a bunker a minute later", tank{three, bunkers(11, 7)}, 0, 1, burned{b: api.Bounds{Low: 27, High: 57}}},
		{"a bunker in the minute of the last sounding", tank{three, bunkers(20, 7)}, 0, 1, burned{b: api.Bounds{Low: 27, High: 57}}},
		{"this bunker is not in the second span", tank{three, bunkers(20, 7)}, 1, 2, burned{b: api.Bounds{Low: 25, High: 50}}},
		{"a bunker a minute after the last sounding", tank{three, bunkers(21, 7)}, 0, 1, burned{b: api.Bounds{Low: 20, High: 50}}},
		{"several bunkers, in no order, some in one minute", tank{three, bunkers(25, 1, 15, 10, 25, 1, 30, 100, 10, 1000, 12, 10000)}, 0, 2, burned{b: api.Bounds{Low: 10177, High: 10192}}},
		{"a Low below 0", tank{soundings(0, 10, 20, 1, 15, 18), nil}, 0, 1, burned{b: api.Bounds{Low: 0, High: 5}}},
		{"a Low of 0", tank{soundings(0, 18, 20, 1, 15, 18), nil}, 0, 1, burned{b: api.Bounds{Low: 0, High: 5}}},
		{"a High of 0", tank{soundings(0, 10, 20, 1, 20, 30), nil}, 0, 1, burned{}},
		{"a High below 0", tank{soundings(0, 10, 20, 1, 21, 30), nil}, 0, 1, burned{e: api.ErrState}},
		{"a bunker explains it", tank{soundings(0, 10, 20, 1, 21, 30), bunkers(1, 1)}, 0, 1, burned{}},
		{"a bunker too late", tank{soundings(0, 10, 20, 1, 21, 30), bunkers(2, 1)}, 0, 1, burned{e: api.ErrState}},
		{"other spans are not asked", tank{soundings(0, 10, 20, 1, 21, 30, 2, 5, 6), nil}, 1, 2, burned{b: api.Bounds{Low: 15, High: 25}}},
		{"the greatest numbers", tank{soundings(0, 10000000, 10000000, 1000000, 0, 0), slices.Repeat(bunkers(1000000, 10000000), 100)}, 0, 1, burned{b: api.Bounds{Low: 1010000000, High: 1010000000}}},
	} {
		if got := c.t.burned(c.from, c.to); got != c.want {
			t.Errorf("%s: %v, want %v", c.name, got, c.want)
		}
	}
}

// P8.5: from and to.
func TestBurnedSpans(t *testing.T) {
	three := tank{soundings(10, 100, 110, 20, 60, 80, 30, 30, 35), nil}
	for from := -2; from < 5; from++ {
		for to := -2; to < 5; to++ {
			want := api.ErrNone
			if from >= 0 && from < to && to < 3 {
				want = api.OK
			}
			if got := three.burned(from, to); got.e != want || want != api.OK && got != (burned{e: want}) {
				t.Errorf("%d to %d: %v, want %d", from, to, got, want)
			}
		}
	}
	if got := (tank{soundings(0, 10, 20, 1, 21, 30), nil}).burned(1, 0); got != (burned{e: api.ErrNone}) {
		t.Error("numbers that are wrong come before the state:", got)
	}
}

// P8.6: what is missing, as in the example, how the engines are rounded, and which span comes first.
func TestMissing(t *testing.T) {
	none := missing{e: api.ErrNone}
	for _, c := range []struct {
		name string
		t    tank
		rate int
		want missing
	}{
		{"the example", exampleTank(), 100, missing{0, 1, 30, api.OK}},
		{"the example, with engines that burn nothing", exampleTank(), 0, missing{0, 1, 230, api.OK}},
		{"the example, with engines that can burn almost all", exampleTank(), 114, missing{0, 1, 2, api.OK}},
		{"the example, with engines that can burn all", exampleTank(), 115, none},
		{"a single sounding", tank{soundings(0, 5, 5), nil}, 0, none},
		{"a single sounding, and bunkers", tank{soundings(0, 5, 5), bunkers(0, 9, 1, 9)}, 0, none},
		{"nothing is missing for sure", tank{soundings(0, 5, 9, 1, 5, 9), nil}, 0, none},
		{"one liter", tank{soundings(0, 6, 9, 1, 5, 5), nil}, 0, missing{0, 1, 1, api.OK}},
		{"a liter that engines may have burned in a minute", tank{soundings(0, 6, 9, 1, 5, 5), nil}, 1, none},
		{"60 minutes", tank{soundings(0, 6, 9, 60, 4, 4), nil}, 1, missing{0, 1, 1, api.OK}},
		{"61 minutes", tank{soundings(0, 6, 9, 61, 4, 4), nil}, 1, none},
		{"rounded up once for the whole span", tank{soundings(0, 9, 9, 30, 8, 8, 60, 7, 7), nil}, 1, missing{0, 2, 1, api.OK}},
		{"what was taken is missing", tank{soundings(0, 5, 5, 10, 5, 5), bunkers(10, 3)}, 0, missing{0, 1, 3, api.OK}},
		{"what was taken in the minute of the first sounding is not", tank{soundings(0, 5, 5, 10, 5, 5), bunkers(0, 3, 11, 3)}, 0, none},
		{"less has gone than the engines can burn", tank{soundings(0, 9, 9, 10, 7, 7, 20, 7, 7, 30, 2, 2), nil}, 60, none},
		{"most is missing in the last span", tank{soundings(0, 50, 50, 10, 45, 45, 20, 36, 36, 30, 5, 5), nil}, 60, missing{2, 3, 21, api.OK}},
		{"the widest of several spans", tank{soundings(0, 50, 50, 10, 45, 45, 20, 35, 35), nil}, 0, missing{0, 2, 15, api.OK}},
		{"of as much the first from", tank{soundings(0, 50, 50, 10, 45, 50, 20, 40, 45, 30, 40, 40), nil}, 0, missing{0, 3, 10, api.OK}},
		{"of as much in two spans the first one", tank{soundings(0, 9, 9, 1, 4, 4, 2, 9, 9, 3, 4, 4), nil}, 0, missing{0, 1, 5, api.OK}},
		{"the smallest from comes before the smallest to", tank{soundings(0, 9, 9, 1, 9, 9, 2, 4, 4, 3, 4, 4), nil}, 0, missing{0, 2, 5, api.OK}},
		{"the fuel of a span that is not possible", tank{soundings(0, 5, 5, 1, 9, 9, 2, 6, 6), nil}, 0, missing{1, 2, 3, api.OK}},
		{"the greatest numbers", tank{soundings(0, 10000000, 10000000, 1000000, 0, 0), slices.Repeat(bunkers(1, 10000000), 100)}, 10000000, none},
		{"the greatest numbers, with engines that burn nothing", tank{soundings(0, 10000000, 10000000, 1000000, 0, 0), slices.Repeat(bunkers(1, 10000000), 100)}, 0, missing{0, 1, 1010000000, api.OK}},
		{"the greatest rate", tank{soundings(0, 10000000, 10000000, 59, 0, 0), nil}, 10000000, missing{0, 1, 166666, api.OK}},
	} {
		if got := c.t.missing(c.rate); got != c.want {
			t.Errorf("%s: %v, want %v", c.name, got, c.want)
		}
	}
}

// P8.5, P8.6: the same as in all truths, and with all pairs.
func TestFuelAgainstTruths(t *testing.T) {
	g := rand.New(rand.NewSource(4))
	raised, impossible, none, found := 0, 0, 0, map[[2]int]int{}
	for range 6000 {
		x := randomTank(g, 1+g.Intn(30))
		for to := range x.l {
			for from := range to {
				want := x.slowBurned(from, to)
				if got := x.burned(from, to); got != want {
					t.Fatalf("%v, %d to %d: %v, want %v", x, from, to, got, want)
				}
				if want.e != api.OK {
					impossible++
				} else if want.b.Low == 0 {
					raised++
				}
			}
		}
		rate := g.Intn(400)
		want := x.slowMissing(rate)
		if got := x.missing(rate); got != want {
			t.Fatalf("%v, %d: %v, want %v", x, rate, got, want)
		}
		if mixed := (tank{x.l, shuffled(g, x.b)}).missing(rate); mixed != want {
			t.Fatalf("%v, %d: %v, want %v, with bunkers in another order", x, rate, mixed, want)
		}
		if want.e != api.OK {
			none++
		} else {
			found[[2]int{want.from, want.to}]++
		}
	}
	if raised < 500 || impossible < 500 || none < 500 || len(found) < 10 {
		t.Error("too few cases:", raised, impossible, none, found)
	}
}

// P8.10: what was burned is in the bounds, and nothing is missing if the engines burned it.
func TestFuelOfVoyages(t *testing.T) {
	g := rand.New(rand.NewSource(5))
	spans := 0
	for range 5000 {
		rate := g.Intn(900)
		x, gone := voyage(g, rate)
		if got := x.missing(rate); got != (missing{e: api.ErrNone}) {
			t.Fatalf("%v, %d: %v", x, rate, got)
		}
		for to := range x.l {
			for from := range to {
				got, n := x.burned(from, to), gone[to]-gone[from]
				if got.e != api.OK || n < got.b.Low || n > got.b.High {
					t.Fatalf("%v, %d to %d: %v, but %d", x, from, to, got, n)
				}
				if n > 0 {
					spans++
				}
			}
		}
	}
	if spans < 5000 {
		t.Error("too few cases:", spans)
	}
}

// P8.10: the bounds of two spans together are not wider than the sums of both.
func TestFuelOfTwoSpans(t *testing.T) {
	g := rand.New(rand.NewSource(6))
	seen := 0
	for range 5000 {
		x, _ := voyage(g, 900)
		last := len(x.l) - 1
		for between := 1; between < last; between++ {
			first, second, both := x.burned(0, between), x.burned(between, last), x.burned(0, last)
			if first.b.Low == 0 || second.b.Low == 0 || both.b.Low == 0 {
				continue
			}
			seen++
			if both.b.Low < first.b.Low+second.b.Low || both.b.High > first.b.High+second.b.High {
				t.Fatalf("%v, %d: %v and %v, but %v", x, between, first, second, both)
			}
		}
	}
	if seen < 1000 {
		t.Error("too few cases:", seen)
	}
}
