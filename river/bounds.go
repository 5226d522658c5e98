package river

import "thalweg/api"

// floor returns n / by, rounded down, for a by above 0: Go's own division rounds towards 0.
func floor(n, by int) int {
	if n%by < 0 {
		return n/by - 1
	}
	return n / by
}

// ceil returns n / by, rounded up, for a by above 0.
func ceil(n, by int) int {
	return -floor(-n, by)
}

// sum adds bounds of numbers that are independent of each other.
func sum(l ...api.Bounds) api.Bounds {
	var all api.Bounds
	for _, b := range l {
		all.Low += b.Low
		all.High += b.High
	}
	return all
}
