// Package river computes flows, levels and depths of a river within bounds: see shared/doc/01-river.md.
package river

import (
	"slices"

	"thalweg/api"
)

// Check returns OK if a river is valid.
func Check(r api.River) api.Errno {
	if !within(1, api.MaxReaches, len(r.Reaches)) || len(r.Shoals) > api.MaxShoals || !every(r.Reaches, validReach) {
		return api.ErrArg
	}
	length := lengthOf(r)
	if !every(r.Shoals, func(s api.Shoal) bool { return validShoal(s, length) }) {
		return api.ErrArg
	}
	return api.OK
}

// Runoff returns what flows from the land into a reach, hour by hour.
func Runoff(c api.Catch, sky []api.SkyHour) ([]api.Bounds, api.Errno) {
	if !validCatch(c) {
		return nil, api.ErrArg
	}
	if len(sky) > api.MaxRiverHours {
		return nil, api.ErrLong
	}
	if !every(sky, validSky) {
		return nil, api.ErrArg
	}
	left := snow{c.Snow}
	runoff := make([]api.Bounds, len(sky))
	for hour, x := range sky {
		runoff[hour] = drained(c, sum(x.Rain, left.melt(warmth(c, x))))
	}
	return runoff, api.OK
}

// Flows returns the flow of each reach, hour by hour.
func Flows(r api.River, sides [][]api.Bounds) ([][]api.Bounds, api.Errno) {
	s, e := newStream(r, sides)
	return s.flows, e
}

// Level returns the level of a reach at a flow.
func Level(x api.Reach, flow api.Bounds) (api.Bounds, api.Errno) {
	if !validReach(x) {
		return api.Bounds{}, api.ErrArg
	}
	if !valid(flow, 0, api.MaxReaches*api.MaxSide+api.MaxSide) {
		return api.Bounds{}, api.ErrRange
	}
	return levelAt(x, flow), api.OK
}

// Levels returns the level of each reach, hour by hour.
func Levels(r api.River, sides [][]api.Bounds) ([][]api.Bounds, api.Errno) {
	s, e := newStream(r, sides)
	if e != api.OK {
		return nil, e
	}
	levels := make([][]api.Bounds, len(s.Reaches))
	for i, x := range s.Reaches {
		for hour := range s.hours {
			levels[i] = append(levels[i], levelAt(x, s.flows[i][hour]))
		}
	}
	return levels, api.OK
}

// Volume returns how much water flows through a reach in some hours.
func Volume(r api.River, sides [][]api.Bounds, reach, from, to int) (api.Bounds, api.Errno) {
	s, e := newStream(r, sides)
	if e != api.OK {
		return api.Bounds{}, e
	}
	if !within(0, len(s.Reaches)-1, reach) {
		return api.Bounds{}, api.ErrNone
	}
	if from > to || !within(0, s.hours, from, to) {
		return api.Bounds{}, api.ErrRange
	}
	return sum(s.flows[reach][from:to]...), api.OK
}

// Bed returns how high the bed is at a place in an hour.
func Bed(r api.River, place, hour int) (api.Bounds, api.Errno) {
	if e := Check(r); e != api.OK {
		return api.Bounds{}, e
	}
	p, e := find(r, place)
	if e != api.OK {
		return api.Bounds{}, e
	}
	if !within(-api.MaxRiverHours, api.MaxRiverHours, hour) {
		return api.Bounds{}, api.ErrRange
	}
	return bedAt(r, p, hour), api.OK
}

// Depth returns how deep the water is at a place in an hour.
func Depth(r api.River, sides [][]api.Bounds, place, hour int) (api.Bounds, api.Errno) {
	s, e := newStream(r, sides)
	if e != api.OK {
		return api.Bounds{}, e
	}
	p, e := s.at(place, hour)
	if e != api.OK {
		return api.Bounds{}, e
	}
	return s.depth(p, hour), api.OK
}

// Shallowest returns the least depth on a way, and where and when it can be as low as that.
func Shallowest(r api.River, sides [][]api.Bounds, way []api.Pass) (least api.Bounds, pass, hour int, e api.Errno) {
	s, e := newStream(r, sides)
	if e != api.OK {
		return least, pass, hour, e
	}
	spots, e := s.along(way)
	if e != api.OK {
		return least, pass, hour, e
	}
	for i, p := range spots {
		depth, lowest := s.depths(p, way[i].Hours)
		if i == 0 || depth.Low < least.Low {
			least.Low, pass, hour = depth.Low, i, lowest
		}
		if i == 0 || depth.High < least.High {
			least.High = depth.High
		}
	}
	return least, pass, hour, api.OK
}

// Closed reports whether a place is possibly, and surely, closed in an hour.
func Closed(r api.River, sides [][]api.Bounds, l []api.Closure, place, hour int) (possibly, surely bool, e api.Errno) {
	s, e := newStream(r, sides)
	if e != api.OK {
		return false, false, e
	}
	if len(l) > api.MaxClosures {
		return false, false, api.ErrLong
	}
	length := lengthOf(r)
	if !every(l, func(c api.Closure) bool { return validClosure(c, length) }) {
		return false, false, api.ErrArg
	}
	p, e := s.at(place, hour)
	if e != api.OK {
		return false, false, e
	}
	level := s.level(p, hour)
	possibly = level.High > p.Flood || slices.ContainsFunc(l, func(c api.Closure) bool {
		return closes(c, place, hour, c.Begin.Low, c.End.High)
	})
	surely = level.Low > p.Flood || slices.ContainsFunc(l, func(c api.Closure) bool {
		return closes(c, place, hour, c.Begin.High, c.End.Low)
	})
	return possibly, surely, api.OK
}
