package river

import (
	"iter"

	"thalweg/api"
)

// spot is a place, with its reach, and the number of that.
type spot struct {
	api.Reach
	number, place int
}

// lengthOf returns how many places a river has.
func lengthOf(r api.River) int {
	length := 0
	for _, x := range r.Reaches {
		length += x.Length
	}
	return length
}

// find returns the spot of a place of a valid river.
func find(r api.River, place int) (spot, api.Errno) {
	if place < 0 {
		return spot{}, api.ErrNone
	}
	end := 0
	for i, x := range r.Reaches {
		end += x.Length
		if place < end {
			return spot{x, i, place}, api.OK
		}
	}
	return spot{}, api.ErrNone
}

// bedAt returns how high the bed is at a spot in an hour.
func bedAt(r api.River, p spot, hour int) api.Bounds {
	// No bottom is below 0, so that 0 is no higher than what follows.
	var top api.Bounds
	for b := range beds(r, p, hour) {
		// Each end has its own greatest: the shoal that can be the highest need not be the one that surely is.
		top = api.Bounds{Low: max(top.Low, b.Low), High: max(top.High, b.High)}
	}
	return top
}

// beds yields how high the bottom and the shoals at a spot are in an hour.
func beds(r api.River, p spot, hour int) iter.Seq[api.Bounds] {
	return func(yield func(api.Bounds) bool) {
		if !yield(p.Bottom) {
			return
		}
		for _, s := range r.Shoals {
			if s.Place == p.place && !yield(grown(s, hour)) {
				return
			}
		}
	}
}

// grown returns how high a shoal is in an hour.
func grown(s api.Shoal, hour int) api.Bounds {
	hours := max(0, hour-s.Sounded)
	return api.Bounds{
		Low:  s.Bed.Low + floor(s.Grow.Low*hours, 24),
		High: s.Bed.High + ceil(s.Grow.High*hours, 24),
	}
}

// closes reports whether a closure closes a place in an hour, if it begins and ends as given.
func closes(c api.Closure, place, hour, begin, end int) bool {
	return within(c.From, c.To, place) && begin <= hour && hour < end
}
