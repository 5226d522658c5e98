package valid_test

import (
	"math"
	"testing"

	"thalweg/api"
	"thalweg/valid"
)

// Both ends belong to what is allowed, and each number counts.
func TestWithin(t *testing.T) {
	for _, c := range []struct {
		low, high int
		numbers   []int
		want      bool
	}{
		{1, 3, nil, true}, {3, 1, nil, true}, {1, 3, []int{1}, true}, {1, 3, []int{3, 2, 1}, true},
		{1, 3, []int{0}, false}, {1, 3, []int{4}, false}, {1, 3, []int{2, 4}, false}, {1, 3, []int{0, 2}, false}, {3, 1, []int{2}, false},
		{math.MinInt, math.MaxInt, []int{math.MinInt, math.MaxInt}, true}, {-1, 0, []int{math.MinInt}, false}, {-1, 0, []int{math.MaxInt}, false},
	} {
		if got := valid.Within(c.low, c.high, c.numbers...); got != c.want {
			t.Errorf("%v within %d to %d: %v", c.numbers, c.low, c.high, got)
		}
	}
}

// A condition holds for all elements of an empty list.
func TestEvery(t *testing.T) {
	for _, c := range []struct {
		list []string
		want bool
	}{{nil, true}, {[]string{"a"}, true}, {[]string{"a", "a"}, true}, {[]string{"b", "a"}, false}, {[]string{"a", "b"}, false}} {
		if got := valid.Every(c.list, func(s string) bool { return s == "a" }); got != c.want {
			t.Errorf("%v: %v", c.list, got)
		}
	}
}

// Bounds are valid if Low is at most High, and both are in the range.
func TestBounds(t *testing.T) {
	for _, c := range []struct {
		low, high int
		want      bool
	}{
		{2, 2, true}, {2, 5, true}, {5, 5, true}, {3, 4, true}, {4, 3, false}, {5, 2, false}, {1, 3, false}, {3, 6, false}, {1, 1, false}, {6, 6, false},
		{math.MinInt, math.MaxInt, false}, {math.MaxInt, math.MinInt, false},
	} {
		if got := valid.Bounds(api.Bounds{Low: c.low, High: c.high}, 2, 5); got != c.want {
			t.Errorf("%d to %d: %v", c.low, c.high, got)
		}
	}
}

// An error comes just if the condition does not hold.
func TestUnless(t *testing.T) {
	for _, e := range []api.Errno{api.OK, api.ErrArg, api.ErrSum} {
		if got := valid.Unless(true, e); got != api.OK {
			t.Errorf("true: %d", got)
		}
		if got := valid.Unless(false, e); got != e {
			t.Errorf("false: %d, want %d", got, e)
		}
	}
}

// A list that is too long has another error than one with an element that is not valid, and this error comes first.
func TestList(t *testing.T) {
	for _, c := range []struct {
		list []string
		most int
		want api.Errno
	}{
		{nil, 0, api.OK}, {[]string{}, 2, api.OK}, {[]string{"a"}, 2, api.OK}, {[]string{"a", "a"}, 2, api.OK}, {[]string{"a", "a", "a"}, 2, api.ErrLong},
		{[]string{"b"}, 0, api.ErrLong}, {[]string{"b", "a", "a"}, 2, api.ErrLong}, {[]string{"b", "a"}, 2, api.ErrArg}, {[]string{"a", "b"}, 2, api.ErrArg},
	} {
		if got := valid.List(c.list, c.most, func(s string) bool { return s == "a" }); got != c.want {
			t.Errorf("%v of at most %d: %d, want %d", c.list, c.most, got, c.want)
		}
	}
}

// The first element with an error is told, with its own error, and no later one is looked at.
func TestFirst(t *testing.T) {
	for _, c := range []struct {
		list  []api.Errno
		at    int
		e     api.Errno
		looks int
	}{
		{nil, 0, api.OK, 0}, {[]api.Errno{0, 0}, 0, api.OK, 2}, {[]api.Errno{api.ErrArg}, 0, api.ErrArg, 1}, {[]api.Errno{0, 0, api.ErrNone, 0, api.ErrArg}, 2, api.ErrNone, 3},
	} {
		looks := 0
		at, e := valid.First(c.list, func(e api.Errno) api.Errno {
			looks++
			return e
		})
		if at != c.at || e != c.e || looks != c.looks {
			t.Errorf("%v: %d, %d after %d, want %d, %d after %d", c.list, at, e, looks, c.at, c.e, c.looks)
		}
	}
}
