package whole_test

import (
	"testing"

	"thalweg/api"
	"thalweg/whole"
)

// A quotient that is no whole number is rounded up.
func TestUp(t *testing.T) {
	for _, c := range []struct{ n, by, want int }{{0, 1, 0}, {0, 7, 0}, {1, 7, 1}, {6, 7, 1}, {7, 7, 1}, {8, 7, 2}, {14, 7, 2}, {5, 1, 5}, {1, 1 << 60, 1}} {
		if got := whole.Up(c.n, c.by); got != c.want {
			t.Errorf("%d / %d: %d, want %d", c.n, c.by, got, c.want)
		}
	}
}

// Each end of a sum is the sum of these ends.
func TestSum(t *testing.T) {
	for _, c := range []struct {
		l    []api.Bounds
		want api.Bounds
	}{
		{nil, api.Bounds{}},
		{[]api.Bounds{{Low: 2, High: 5}}, api.Bounds{Low: 2, High: 5}},
		{[]api.Bounds{{Low: 2, High: 5}, {Low: -3, High: 10}, {Low: 1, High: 1}}, api.Bounds{Low: 0, High: 16}},
	} {
		if got := whole.Sum(c.l...); got != c.want {
			t.Errorf("%v: %v, want %v", c.l, got, c.want)
		}
	}
}

// A sum of no numbers is 0.
func TestTotal(t *testing.T) {
	for _, c := range []struct {
		l    []int
		want int
	}{{nil, 0}, {[]int{7}, 7}, {[]int{7, 0, -9, 1}, -1}} {
		if got := whole.Total(c.l...); got != c.want {
			t.Errorf("%v: %d, want %d", c.l, got, c.want)
		}
	}
}
