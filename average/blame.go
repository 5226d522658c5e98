package average

import "thalweg/whole"

// blame returns what each party of a collision pays, or the opposite of what it gets.
func blame(losses, faults, limits []int) []int {
	paid, lacks := make([]int, len(losses)), make([]int, len(losses))
	for i, bears := range shares(whole.Total(losses...), faults) {
		paid[i] = min(max(0, bears-losses[i]), limits[i])
		lacks[i] = max(0, losses[i]-bears)
	}
	if whole.Total(lacks...) == 0 {
		// Each party bears just its own loss: there are no weights by which something could be split.
		return paid
	}
	// A party that gets nothing has the weight 0, which leaves the shares of the others as they are.
	for i, got := range shares(whole.Total(paid...), lacks) {
		paid[i] -= got
	}
	return paid
}
