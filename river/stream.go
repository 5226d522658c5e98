package river

import (
	"slices"

	"thalweg/api"
)

// stream is a river with its forecast: the number of its hours, and the flow of each reach in each of them.
type stream struct {
	api.River
	hours int
	flows [][]api.Bounds
}

// newStream returns the stream of a river and a forecast, or the error of P1.1.
func newStream(r api.River, sides [][]api.Bounds) (stream, api.Errno) {
	if e := checkForecast(r, sides); e != api.OK {
		return stream{}, e
	}
	s := stream{River: r, hours: len(sides[0])}
	for i, side := range sides {
		s.flows = append(s.flows, s.flow(i, side))
	}
	return s, api.OK
}

// flow returns the flow of a reach in each hour; those of the reaches above it are known already.
func (s stream) flow(reach int, side []api.Bounds) []api.Bounds {
	flow := slices.Clone(side)
	if reach > 0 {
		for hour := range s.hours {
			flow[hour] = sum(side[hour], s.arriving(reach-1, hour))
		}
	}
	return flow
}

// arriving returns how much of the flow of a reach comes to its lower end in an hour.
func (s stream) arriving(reach, hour int) api.Bounds {
	x := s.Reaches[reach]
	if hour < x.Delay {
		return x.Base
	}
	return s.flows[reach][hour-x.Delay]
}

// levelAt returns the level of a valid reach at a valid flow.
func levelAt(x api.Reach, flow api.Bounds) api.Bounds {
	low, _ := curveAt(x.Curve, flow.Low)
	_, high := curveAt(x.Curve, flow.High)
	return api.Bounds{Low: max(low, x.Weir), High: max(high, x.Weir)}
}

// curveAt returns the level of a curve at a flow, rounded down, and rounded up.
func curveAt(rows []api.RateRow, flow int) (down, up int) {
	above := slices.IndexFunc(rows, func(x api.RateRow) bool { return x.Flow > flow })
	switch above {
	case 0:
		return rows[0].Level, rows[0].Level
	case -1:
		last := rows[len(rows)-1]
		return last.Level, last.Level
	}
	a, b := rows[above-1], rows[above]
	rise, width := (flow-a.Flow)*(b.Level-a.Level), b.Flow-a.Flow
	return a.Level + floor(rise, width), a.Level + ceil(rise, width)
}

// level returns the level at a spot in an hour.
func (s stream) level(p spot, hour int) api.Bounds {
	return levelAt(p.Reach, s.flows[p.number][hour])
}

// depth returns the depth at a spot in an hour.
func (s stream) depth(p spot, hour int) api.Bounds {
	level, bed := s.level(p, hour), bedAt(s.River, p, hour)
	return api.Bounds{Low: max(0, level.Low-bed.High), High: max(0, level.High-bed.Low)}
}

// depths returns the bounds of the depth at a spot in some hours, and the first hour with the Low of them.
func (s stream) depths(p spot, hours api.Bounds) (all api.Bounds, lowest int) {
	all, lowest = s.depth(p, hours.Low), hours.Low
	for hour := hours.Low + 1; hour <= hours.High; hour++ {
		depth := s.depth(p, hour)
		if depth.Low < all.Low {
			all.Low, lowest = depth.Low, hour
		}
		all.High = max(all.High, depth.High)
	}
	return all, lowest
}

// at returns the spot of a place, for an hour of the forecast.
func (s stream) at(place, hour int) (spot, api.Errno) {
	p, e := find(s.River, place)
	if e != api.OK {
		return spot{}, e
	}
	if !within(0, s.hours-1, hour) {
		return spot{}, api.ErrRange
	}
	return p, api.OK
}

// along returns the spots of a way.
func (s stream) along(way []api.Pass) ([]spot, api.Errno) {
	if len(way) == 0 {
		return nil, api.ErrForm
	}
	if len(way) > api.MaxPasses {
		return nil, api.ErrLong
	}
	spots := make([]spot, len(way))
	for i, x := range way {
		p, e := find(s.River, x.Place)
		if e != api.OK {
			return nil, e
		}
		if !valid(x.Hours, 0, s.hours-1) {
			return nil, api.ErrRange
		}
		spots[i] = p
	}
	return spots, api.OK
}
