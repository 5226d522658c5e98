// Package whole computes with whole numbers, and with bounds of them, as several layers do.
package whole

import "thalweg/api"

// Up returns n / by, rounded up, for an n that is not below 0, and a by above 0.
func Up(n, by int) int {
	return (n + by - 1) / by
}

// Sum adds bounds of numbers that are independent of each other.
func Sum(l ...api.Bounds) api.Bounds {
	var all api.Bounds
	for _, b := range l {
		all.Low += b.Low
		all.High += b.High
	}
	return all
}

// Total adds numbers.
func Total(numbers ...int) int {
	total := 0
	for _, n := range numbers {
		total += n
	}
	return total
}
