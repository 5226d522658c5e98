package hull

import (
	"cmp"
	"slices"
	"sort"

	"thalweg/api"
	"thalweg/valid"
)

// ship is a valid hull with what all of its loads have in common: how deep it may lie, its mass, its trim and its moment without a load, and its holds.
type ship struct {
	api.Hull
	limit, light, trim, moment int
	holds                      []hold
}

// hold is a hold, and how many half meters it lies after the middle of the hull.
type hold struct {
	api.HullHold
	arm int
}

// newShip returns the ship of a hull, or the error of P2.1.
func newShip(h api.Hull) (ship, api.Errno) {
	if e := Check(h); e != api.OK {
		return ship{}, e
	}
	s := ship{Hull: h, limit: api.MaxDraft}
	// In half meters the middle of the hull is as far from its fore end as the hull is long in meters.
	fore := -lengthOf(h.Sections...)
	for _, x := range h.Sections {
		s.limit = min(s.limit, x.Curve[len(x.Curve)-1].Draft)
		s.light += x.Light
		s.trim += x.Trim
		s.moment += x.Light * (fore + x.Length)
		for _, y := range x.Holds {
			s.holds = append(s.holds, hold{y, fore + 2*y.At})
		}
		fore += 2 * x.Length
	}
	return s, api.OK
}

// volume returns how much water the ship displaces at a draft up to its limit.
func (s ship) volume(draft int) int {
	volume := 0
	for _, x := range s.Sections {
		volume += volumeAt(x.Curve, draft)
	}
	return volume
}

// volumeAt returns the volume of a curve at a draft, rounded down.
func volumeAt(rows []api.HullRow, draft int) int {
	if draft == 0 {
		return 0
	}
	next := slices.IndexFunc(rows, func(x api.HullRow) bool { return x.Draft >= draft })
	a, b := rows[next-1], rows[next]
	return a.Volume + (draft-a.Draft)*(b.Volume-a.Volume)/(b.Draft-a.Draft)
}

// checkLoad returns the error of a load.
func (s ship) checkLoad(load []int) api.Errno {
	if len(load) != len(s.holds) {
		return api.ErrForm
	}
	for i, lots := range load {
		if !valid.Within(0, s.holds[i].Lots, lots) {
			return api.ErrRange
		}
	}
	return api.OK
}

// float returns how deep the ship lies with a load, and whether it floats so, at all densities.
func (s ship) float(load []int, density api.Bounds) (f api.HullFloat, floats bool) {
	mass, moment := s.weigh(load)
	lower := ceil(abs(moment), 4*s.trim)
	// The denser the water is, the less of it must be displaced.
	f.Mean = api.Bounds{Low: s.mean(mass, density.High), High: s.mean(mass, density.Low)}
	f.Deep = api.Bounds{Low: f.Mean.Low + lower, High: f.Mean.High + lower}
	f.Head = cmp.Compare(moment, 0)
	return f, f.Deep.High <= s.limit
}

// weigh returns the mass and the moment of the ship with a load.
func (s ship) weigh(load []int) (mass, moment int) {
	mass, moment = s.light, s.moment
	for i, lots := range load {
		mass += s.Lot * lots
		moment += s.Lot * lots * s.holds[i].arm
	}
	return mass, moment
}

// mean returns the mean draft with a mass; it is beyond the limit if no draft up to there is enough.
func (s ship) mean(mass, density int) int {
	volume := ceil(mass*1000, density)
	return sort.Search(s.limit+1, func(draft int) bool { return s.volume(draft) >= volume })
}

// ceil returns n / by, rounded up, for an n that is not below 0, and a by above 0.
func ceil(n, by int) int {
	return (n + by - 1) / by
}

// abs returns a number without its sign.
func abs(n int) int {
	return max(n, -n)
}
