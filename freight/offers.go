package freight

import (
	"cmp"
	"slices"

	"thalweg/api"
)

// journey is a list of offers, in the order in which they are carried, and what they gain.
type journey struct {
	offers []int
	gain   int
}

// compare compares journeys: the better one comes first.
func (j journey) compare(x journey) int {
	return cmp.Or(cmp.Compare(x.gain, j.gain), cmp.Compare(len(j.offers), len(x.offers)), slices.Compare(j.offers, x.offers))
}

// hull is what moves empty: how slow it is, and what it costs.
type hull struct {
	slow, cost int
}

// approach returns what it costs to move empty to an offer from a place at a minute, and whether the hull is there in time.
func (h hull) approach(o api.FreightOffer, place, minute int) (cost int, inTime bool) {
	way := max(o.From-place, place-o.From)
	return way * h.cost, minute+way*h.slow <= o.Begin
}

// onward returns the best way to go on from a place at a minute: none, or one of these journeys.
func (h hull) onward(l []api.FreightOffer, journeys []journey, place, minute int) journey {
	var best journey
	for _, j := range journeys {
		cost, inTime := h.approach(l[j.offers[0]], place, minute)
		x := journey{j.offers, j.gain - cost}
		if inTime && x.compare(best) < 0 {
			best = x
		}
	}
	return best
}

// best returns the best journey from a place at a minute. What comes after an offer does not depend on what came before it: so the best journey from each one is found first for the last of them.
func (h hull) best(l []api.FreightOffer, place, minute int) journey {
	var journeys []journey
	for _, i := range slices.Backward(byBegin(l)) {
		rest := h.onward(l, journeys, l[i].To, l[i].End)
		journeys = append(journeys, journey{append([]int{i}, rest.offers...), l[i].Pay + rest.gain})
	}
	return h.onward(l, journeys, place, minute)
}

// byBegin returns the indices of offers in the order in which they can be carried.
func byBegin(l []api.FreightOffer) []int {
	var order []int
	for i := range l {
		order = append(order, i)
	}
	slices.SortStableFunc(order, func(a, b int) int { return cmp.Compare(l[a].Begin, l[b].Begin) })
	return order
}
