package average_test

import (
	"math/rand"
	"slices"
	"testing"

	"thalweg/api"
)

// P8.7: what passes cost, as in the example, what is taken off, and the most that is to be paid.
func TestDues(t *testing.T) {
	type passes = []api.DuePass
	plain := api.Tariff{Base: 10, Tons: 100, Passes: 300, Most: 100000000000000}
	off := func(passes, parts, most int) api.Tariff {
		t := plain
		t.Passes, t.Off, t.Most = passes, parts, most
		return t
	}
	most := api.Tariff{Base: 1000000, Tons: 1000000, Length: 1000000, Passes: 300, Off: 9999, Most: 100000000000000}
	for _, c := range []struct {
		name   string
		t      api.Tariff
		payers int
		passes passes
		want   []int
	}{
		{"the example", exampleTariff(), 1, passes{pass(0, 1250, 110)}, []int{629}},
		{"no passes", exampleTariff(), 3, nil, []int{0, 0, 0}},
		{"a pass of nothing costs the base", exampleTariff(), 2, passes{pass(1, 0, 0)}, []int{0, 500}},
		{"a meter costs a cent", exampleTariff(), 1, passes{pass(0, 0, 1)}, []int{501}},
		{"33 meters cost a cent", exampleTariff(), 1, passes{pass(0, 0, 33)}, []int{501}},
		{"34 meters cost two cents", exampleTariff(), 1, passes{pass(0, 0, 34)}, []int{502}},
		{"tons and meters are rounded together", exampleTariff(), 1, passes{pass(0, 5, 10)}, []int{501}},
		{"ten tons cost just a cent", exampleTariff(), 1, passes{pass(0, 10, 0)}, []int{501}},
		{"each pass is rounded", exampleTariff(), 1, passes{pass(0, 1, 0), pass(0, 1, 0), pass(0, 1, 0)}, []int{1503}},
		{"all payers", plain, 4, passes{pass(3, 5, 0), pass(0, 1, 0), pass(3, 7, 0), pass(2, 0, 0)}, []int{11, 0, 10, 32}},
		{"a pass less than what is needed", off(3, 5000, 1e14), 1, passes{pass(0, 5, 0), pass(0, 5, 0)}, []int{30}},
		{"as many passes as are needed", off(3, 5000, 1e14), 1, passes{pass(0, 5, 0), pass(0, 5, 0), pass(0, 5, 0)}, []int{23}},
		{"more passes than are needed", off(1, 5000, 1e14), 1, passes{pass(0, 5, 0), pass(0, 5, 0)}, []int{15}},
		{"passes of others do not count", off(2, 5000, 1e14), 2, passes{pass(0, 5, 0), pass(1, 5, 0), pass(1, 5, 0)}, []int{15, 15}},
		{"no passes are needed", off(0, 5000, 1e14), 2, passes{pass(1, 10, 0)}, []int{0, 10}},
		{"what is taken off is rounded down", off(1, 9999, 1e14), 1, passes{pass(0, 1, 0)}, []int{1}},
		{"nothing is taken off", off(1, 0, 1e14), 1, passes{pass(0, 1, 0)}, []int{11}},
		{"all is taken off", off(1, 10000, 1e14), 1, passes{pass(0, 1, 0)}, []int{0}},
		{"just as much as the most", off(300, 0, 30), 1, passes{pass(0, 20, 0)}, []int{30}},
		{"a cent more than the most", off(300, 0, 30), 2, passes{pass(0, 21, 0), pass(1, 19, 0)}, []int{30, 29}},
		{"the most of all passes, not of each", off(300, 0, 30), 1, passes{pass(0, 6, 0), pass(0, 5, 0)}, []int{30}},
		{"the most comes after what is taken off", off(1, 5000, 30), 1, passes{pass(0, 60, 0)}, []int{30}},
		{"what is taken off is not taken from the most", off(1, 1000, 30), 1, passes{pass(0, 23, 0)}, []int{30}},
		{"the most is 0", off(300, 0, 0), 1, passes{pass(0, 60, 0)}, []int{0}},
		{"as many payers as there can be", plain, 40, passes{pass(39, 1, 0)}, append(make([]int, 39), 11)},
		{"the greatest numbers", most, 1, slices.Repeat(passes{pass(0, 400000, 3000)}, 300), []int{1209300000000 - 1209179070000}},
	} {
		if got := dues(c.t, c.payers, c.passes); !got.same(billed{l: c.want}) {
			t.Errorf("%s: %v, want %v", c.name, got, c.want)
		}
	}
}

// P8.7: the first pass with an error is told, and of its errors the one named first.
func TestDuesPasses(t *testing.T) {
	type passes = []api.DuePass
	good := pass(1, 100, 100)
	for _, c := range []struct {
		name string
		l    passes
		at   int
		e    api.Errno
	}{
		{"nothing is wrong", passes{good, pass(0, 0, 0)}, 0, api.OK},
		{"the first pass", passes{pass(2, 1, 1), good}, 0, api.ErrNone},
		{"a payer that there is not", passes{good, good, pass(2, 1, 1)}, 2, api.ErrNone},
		{"a payer below 0", passes{good, pass(-1, 1, 1)}, 1, api.ErrNone},
		{"tons below 0", passes{good, pass(1, -1, 1)}, 1, api.ErrArg},
		{"too many tons", passes{good, pass(1, 400001, 1)}, 1, api.ErrArg},
		{"a length below 0", passes{good, pass(1, 1, -1)}, 1, api.ErrArg},
		{"a length that is too great", passes{good, pass(1, 1, 3001)}, 1, api.ErrArg},
		{"the payer comes before tons and length", passes{good, pass(2, -1, 9999)}, 1, api.ErrNone},
		{"tons, before the payer of the next pass", passes{good, pass(1, -1, 1), pass(2, 1, 1)}, 1, api.ErrArg},
		{"a payer, before the tons of the next pass", passes{good, pass(2, 1, 1), pass(1, -1, 1)}, 1, api.ErrNone},
		{"the last pass of as many as there can be", append(slices.Repeat(passes{good}, 299), pass(1, 1, -1)), 299, api.ErrArg},
	} {
		if got := dues(exampleTariff(), 2, c.l); got.at != c.at || got.e != c.e || got.e != api.OK && !got.same(billed{at: c.at, e: c.e}) {
			t.Errorf("%s: %v, want %d at %d", c.name, got, c.e, c.at)
		}
	}
}

// P8.7, P8.8, P8.11: the same as payer by payer, in any order; nobody pays more than Most, and one pass more never costs less when there were enough before.
func TestDuesAgainstPayers(t *testing.T) {
	g := rand.New(rand.NewSource(7))
	less, more, capped := 0, 0, 0
	for range 6000 {
		tariff, payers := randomTariff(g), 1+g.Intn(5)
		l := randomPasses(g, g.Intn(12), payers)
		want := slowDues(tariff, payers, l)
		for _, same := range [][]api.DuePass{l, shuffled(g, l)} {
			if got := dues(tariff, payers, same); !got.same(want) {
				t.Fatalf("%v, %d, %v: %v, want %v", tariff, payers, same, got, want)
			}
		}
		x := randomPasses(g, 1, payers)[0]
		had := 0
		for _, p := range l {
			if p.Payer == x.Payer {
				had++
			}
		}
		before, after := want.l[x.Payer], dues(tariff, payers, append(l, x)).l[x.Payer]
		switch {
		case before > tariff.Most || after > tariff.Most:
			t.Fatalf("%v, %v, %v: %d, %d", tariff, l, x, before, after)
		case after < before && had >= tariff.Passes:
			t.Fatalf("%v, %v, %v: %d, but %d before", tariff, l, x, after, before)
		case after < before:
			less++
		case after > before && had >= tariff.Passes:
			more++
		}
		if after == tariff.Most {
			capped++
		}
	}
	if less < 50 || more < 300 || capped < 300 {
		t.Error("too few cases:", less, more, capped)
	}
}
