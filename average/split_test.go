package average_test

import (
	"math/big"
	"math/rand"
	"slices"
	"testing"

	"thalweg/api"
)

// P8.1: splits, as in the examples, and what is rounded.
func TestSplit(t *testing.T) {
	full := slices.Repeat([]int{100000000000000}, 60)
	for _, c := range []struct {
		name    string
		n       int
		weights []int
		want    []int
	}{
		{"equal weights", 100, []int{1, 1, 1}, []int{33, 33, 34}},
		{"a weight of nothing", 10, []int{3, 0, 4}, []int{4, 0, 6}},
		{"nothing to split", 0, []int{3, 0, 4}, []int{0, 0, 0}},
		{"one weight", 7, []int{100}, []int{7}},
		{"weights of nothing at both ends", 7, []int{0, 0, 2, 0}, []int{0, 0, 7, 0}},
		{"less than the weights", 1, []int{1, 1, 1}, []int{0, 0, 1}},
		{"two of three", 2, []int{1, 1, 1}, []int{0, 1, 1}},
		{"the order of the weights counts", 5, []int{1, 2, 1}, []int{1, 2, 2}},
		{"the order of the weights counts, the greatest one first", 5, []int{2, 1, 1}, []int{2, 1, 2}},
		{"no remainder", 12, []int{1, 2, 3}, []int{2, 4, 6}},
		{"a sum like that of the weights", 6, []int{1, 2, 3}, []int{1, 2, 3}},
		{"as many weights as there can be", 61, slices.Repeat([]int{1}, 60), append(slices.Repeat([]int{1}, 59), 2)},
		{"products of more than 64 bits", 100000000000000, []int{100000000000000, 1, 99999999999999}, []int{50000000000000, 0, 50000000000000}},
		{"the greatest sum and weights", 100000000000000, full, slowSplit(100000000000000, full)},
	} {
		if got := split(c.n, c.weights); !got.same(shared{l: c.want}) {
			t.Errorf("%s: %v, want %v", c.name, got, c.want)
		}
	}
}

// P8.1: the errors of Split: what is accepted, and what is not.
func TestSplitErrors(t *testing.T) {
	for _, c := range []struct {
		name    string
		n       int
		weights []int
		want    api.Errno
	}{
		{"no weights", 5, nil, api.ErrArg},
		{"no weights above 0", 5, []int{0, 0}, api.ErrArg},
		{"no weights above 0, and nothing to split", 0, []int{0, 0}, api.ErrArg},
		{"a weight below 0", 5, []int{7, -1}, api.ErrArg},
		{"the first weight below 0", 5, []int{-1, 7}, api.ErrArg},
		{"the greatest weight", 5, []int{0, 100000000000000}, api.OK},
		{"a weight too great", 5, []int{1, 100000000000001}, api.ErrArg},
		{"a sum below 0", -1, []int{1}, api.ErrRange},
		{"the greatest sum", 100000000000000, []int{1}, api.OK},
		{"a sum too great", 100000000000001, []int{1}, api.ErrRange},
		{"60 weights", 5, slices.Repeat([]int{1}, 60), api.OK},
		{"61 weights", 5, slices.Repeat([]int{1}, 61), api.ErrLong},
	} {
		if got := split(c.n, c.weights); got.e != c.want || got.e != api.OK && !got.same(shared{e: got.e}) {
			t.Errorf("%s: %v, want %d", c.name, got, c.want)
		}
	}
}

// P8.1, P8.9: the same as by fractions; the shares add up to n, and none differs from its exact share by 1 or more.
func TestSplitAgainstFractions(t *testing.T) {
	g := rand.New(rand.NewSource(1))
	one := big.NewRat(1, 1)
	for i := range 3000 {
		most := []int{3, 100, 1000000, api.MaxSum}[i%4]
		n, weights := g.Intn(most+1), randomNumbers(g, g.Intn(api.MaxSplit), most)
		weights = append(weights, 1+g.Intn(most))
		got := split(n, weights)
		if !got.same(shared{l: slowSplit(n, weights)}) || sum(got.l) != n {
			t.Fatalf("%d by %v: %v", n, weights, got)
		}
		for j, w := range weights {
			exact := fraction(sum(weights), n, w)
			if got.l[j] < 0 || exact.Sub(exact, big.NewRat(int64(got.l[j]), 1)).Abs(exact).Cmp(one) >= 0 {
				t.Fatalf("%d by %v: %v", n, weights, got)
			}
		}
	}
}
