// Package valid holds the conditions on arguments that several layers share.
package valid

import (
	"slices"

	"thalweg/api"
)

// Within reports whether all numbers are from low to high.
func Within(low, high int, numbers ...int) bool {
	return Every(numbers, func(n int) bool { return low <= n && n <= high })
}

// Every reports whether a condition holds for all elements of a list.
func Every[T any](list []T, holds func(T) bool) bool {
	return !slices.ContainsFunc(list, func(x T) bool { return !holds(x) })
}

// Bounds reports whether bounds are valid from low to high.
func Bounds(b api.Bounds, low, high int) bool {
	return b.Low <= b.High && Within(low, high, b.Low, b.High)
}

// Unless returns an error unless a condition holds.
func Unless(holds bool, e api.Errno) api.Errno {
	if holds {
		return api.OK
	}
	return e
}

// List returns the error of a list that can have at most so many elements, each of which must meet a condition.
func List[T any](list []T, most int, holds func(T) bool) api.Errno {
	switch {
	case len(list) > most:
		return api.ErrLong
	case !Every(list, holds):
		return api.ErrArg
	}
	return api.OK
}

// First returns the first element with an error, by its number, and this error. Without one the number is 0.
func First[T any](list []T, check func(T) api.Errno) (at int, e api.Errno) {
	for i, x := range list {
		if e := check(x); e != api.OK {
			return i, e
		}
	}
	return 0, api.OK
}
