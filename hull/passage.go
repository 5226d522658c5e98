package hull

import (
	"slices"

	"thalweg/api"
	"thalweg/river"
	"thalweg/valid"
)

// leastDepth is the least depth on a way, and the pass and the hour with the Low of it.
type leastDepth struct {
	api.Bounds
	pass, hour int
}

// leastOn returns the least depth of a passage.
func leastOn(p api.Passage) (leastDepth, api.Errno) {
	if !valid.Within(0, api.MaxKeel, p.Keel) {
		return leastDepth{}, api.ErrRange
	}
	b, pass, hour, e := river.Shallowest(p.River, p.Sides, p.Way)
	return leastDepth{b, pass, hour}, e
}

// surely reports whether a hull does not touch ground, whatever is true.
func (d leastDepth) surely(f api.HullFloat, keel int) bool {
	return f.Deep.High+keel <= d.Low
}

// possibly reports whether a hull does not touch ground in some truth.
func (d leastDepth) possibly(f api.HullFloat, keel int) bool {
	return f.Deep.Low+keel <= d.High
}

// later returns a passage with all passes some hours later.
func later(p api.Passage, hours int) api.Passage {
	p.Way = slices.Clone(p.Way)
	for i := range p.Way {
		p.Way[i].Hours.Low += hours
		p.Way[i].Hours.High += hours
	}
	return p
}
