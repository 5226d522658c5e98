// Package cases holds values that are, and are not, valid: the tests of the layers have them in common.
package cases

import (
	"math"

	"thalweg/api"
)

// Extremes returns integers at which sums and products would overflow.
func Extremes() []int {
	return []int{math.MinInt, math.MinInt + 1, -1, 0, 1, math.MaxInt - 1, math.MaxInt}
}

// Spoil writes into all the memory of a list, also behind its end.
func Spoil[T any](l []T, x T) {
	l = l[:cap(l)]
	for i := range l {
		l[i] = x
	}
}

// Number is a number, and whether it is valid in its place.
type Number struct {
	N  int
	OK bool
}

// Numbers returns numbers that are, and are not, from low to high.
func Numbers(low, high int) []Number {
	var l []Number
	for _, n := range []int{low, (low + high) / 2, high, low - 1, high + 1, math.MinInt, math.MaxInt} {
		l = append(l, Number{n, low <= n && n <= high})
	}
	return l
}

// Field is a number in a value, and from where to where it is valid.
type Field[T any] struct {
	Name      string
	Of        func(*T) *int
	Low, High int
}

// Change is a value in which one number has been changed, and whether that number is valid.
type Change[T any] struct {
	Name  string
	Value T
	OK    bool
}

// Changes returns a value with changes of each of these fields, one at a time.
func Changes[T any](value T, fields ...Field[T]) []Change[T] {
	var l []Change[T]
	for _, f := range fields {
		for _, c := range Numbers(f.Low, f.High) {
			x := value
			*f.Of(&x) = c.N
			l = append(l, Change[T]{f.Name, x, c.OK})
		}
	}
	return l
}

// Bounds are bounds, and whether they are valid in their place.
type Bounds struct {
	B  api.Bounds
	OK bool
}

// BoundsWithin returns bounds that are, and are not, valid from low to high, which are at least two apart.
func BoundsWithin(low, high int) []Bounds {
	good := []api.Bounds{{Low: low, High: low}, {Low: low, High: high}, {Low: high, High: high}, {Low: low + 1, High: high - 1}}
	bad := []api.Bounds{
		{Low: low + 1, High: low}, {Low: high, High: low}, {Low: low - 1, High: low}, {Low: low - 1, High: low - 1},
		{Low: low, High: high + 1}, {Low: high + 1, High: high + 1},
		{Low: math.MinInt, High: math.MaxInt}, {Low: math.MaxInt, High: math.MinInt},
	}
	var l []Bounds
	for _, b := range good {
		l = append(l, Bounds{b, true})
	}
	for _, b := range bad {
		l = append(l, Bounds{b, false})
	}
	return l
}

// Error returns an error if a value is not valid.
func Error(ok bool, e api.Errno) api.Errno {
	if ok {
		return api.OK
	}
	return e
}
