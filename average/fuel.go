package average

import (
	"iter"

	"thalweg/api"
	"thalweg/whole"
)

// tank is what is known of the fuel in a tank.
type tank struct {
	soundings []api.Sounding
	bunkers   []api.Bunker
}

// span is the time between two soundings, by their numbers.
type span struct {
	from, to int
}

// spans yields all pairs of soundings, sorted by the first one, and then by the second one.
func (t tank) spans() iter.Seq[span] {
	return func(yield func(span) bool) {
		for from := range t.soundings {
			for to := from + 1; to < len(t.soundings); to++ {
				if !yield(span{from, to}) {
					return
				}
			}
		}
	}
}

// taken returns how much was taken in a span.
func (t tank) taken(s span) int {
	liters := 0
	for _, b := range t.bunkers {
		if t.soundings[s.from].Minute < b.Minute && b.Minute <= t.soundings[s.to].Minute {
			liters += b.Liters
		}
	}
	return liters
}

// gone returns how much has gone from the tank in a span. It is below 0 if the soundings tell of more fuel than was taken.
func (t tank) gone(s span) api.Bounds {
	first, last, taken := t.soundings[s.from].Liters, t.soundings[s.to].Liters, t.taken(s)
	return api.Bounds{Low: first.Low + taken - last.High, High: first.High + taken - last.Low}
}

// missing returns how much of what has gone in a span the engines cannot have burned.
func (t tank) missing(s span, rate int) int {
	minutes := t.soundings[s.to].Minute - t.soundings[s.from].Minute
	return t.gone(s).Low - whole.Up(rate*minutes, 60)
}

// worst returns the first span in which most is missing, and how much; without one it returns 0.
func (t tank) worst(rate int) (worst span, most int) {
	for s := range t.spans() {
		if liters := t.missing(s, rate); liters > most {
			worst, most = s, liters
		}
	}
	return worst, most
}
