package average

import (
	"math/bits"

	"thalweg/api"
	"thalweg/whole"
)

// split is a sum that is cut into shares, one after another: the sum, that of all weights, and that of the weights whose shares were cut off.
type split struct {
	n, weights, before int
}

// until returns what weights with this sum get together, rounded down. The product may need more than 64 bits; the quotient is at most n.
func (s *split) until(weights int) int {
	high, low := bits.Mul64(uint64(s.n), uint64(weights))
	share, _ := bits.Div64(high, low, uint64(s.weights))
	return int(share)
}

// next cuts off the share of the next weight.
func (s *split) next(weight int) int {
	start := s.until(s.before)
	s.before += weight
	return s.until(s.before) - start
}

// shares returns the shares of weights, not all of which are 0.
func shares(n int, weights []int) []int {
	s := split{n: n, weights: whole.Total(weights...)}
	return each(weights, s.next)
}

// each returns a number for each element of a list, in their order.
func each[T any](list []T, number func(T) int) []int {
	numbers := make([]int, len(list))
	for i, x := range list {
		numbers[i] = number(x)
	}
	return numbers
}

// parts returns so many ten-thousandths of n, rounded down.
func parts(n, count int) int { return n * count / api.MaxParts }
