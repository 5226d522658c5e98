package cases_test

import (
	"math"
	"slices"
	"testing"

	"thalweg/api"
	"thalweg/cases"
	"thalweg/valid"
)

// The numbers and bounds have both ends, and what is just outside of them.
func TestCases(t *testing.T) {
	numbers := cases.Numbers(3, 7)
	for _, want := range []cases.Number{{N: 3, OK: true}, {N: 7, OK: true}, {N: 2}, {N: 8}} {
		if !slices.Contains(numbers, want) {
			t.Error("no", want)
		}
	}
	for _, c := range numbers {
		if c.OK != valid.Within(3, 7, c.N) {
			t.Error(c)
		}
	}
	bounds := cases.BoundsWithin(3, 7)
	for _, want := range []cases.Bounds{{B: api.Bounds{Low: 3, High: 7}, OK: true}, {B: api.Bounds{Low: 2, High: 3}}, {B: api.Bounds{Low: 3, High: 8}}, {B: api.Bounds{Low: 4, High: 3}}} {
		if !slices.Contains(bounds, want) {
			t.Error("no", want)
		}
	}
	for _, c := range bounds {
		if c.OK != valid.Bounds(c.B, 3, 7) {
			t.Error(c)
		}
	}
	if cases.Error(true, api.ErrArg) != api.OK || cases.Error(false, api.ErrArg) != api.ErrArg {
		t.Error("errors")
	}
}

// Each field is changed alone, to all numbers that are and are not valid there.
func TestChanges(t *testing.T) {
	type pair struct{ a, b int }
	first := cases.Field[pair]{Name: "a", Of: func(p *pair) *int { return &p.a }, Low: 0, High: 5}
	second := cases.Field[pair]{Name: "b", Of: func(p *pair) *int { return &p.b }, Low: 7, High: 9}
	var want []cases.Change[pair]
	for _, c := range cases.Numbers(0, 5) {
		want = append(want, cases.Change[pair]{Name: "a", Value: pair{c.N, 8}, OK: c.OK})
	}
	for _, c := range cases.Numbers(7, 9) {
		want = append(want, cases.Change[pair]{Name: "b", Value: pair{3, c.N}, OK: c.OK})
	}
	value := pair{3, 8}
	if got := cases.Changes(value, first, second); !slices.Equal(got, want) || value != (pair{3, 8}) {
		t.Error(got, value)
	}
	if got := cases.Changes(value); got != nil {
		t.Error(got)
	}
}

// A list is spoiled as a whole, and what is extreme has both ends.
func TestSpoil(t *testing.T) {
	l := []int{1, 2, 3, 4}
	cases.Spoil(l[1:2:3], 9)
	if !slices.Equal(l, []int{1, 9, 9, 4}) {
		t.Error(l)
	}
	cases.Spoil([]int(nil), 9)
	if l := cases.Extremes(); slices.Min(l) != math.MinInt || slices.Max(l) != math.MaxInt {
		t.Error(l)
	}
}
