package river

import "thalweg/api"

// snow is what is left of the snow.
type snow struct {
	api.Bounds
}

// melt takes the melt of an hour from the snow, and returns it; warm is what would melt if there were enough snow.
func (s *snow) melt(warm api.Bounds) api.Bounds {
	melt := api.Bounds{Low: min(warm.Low, s.Low), High: min(warm.High, s.High)}
	// The least snow is left if the most has melted of the least, and the other way round.
	s.Low, s.High = max(0, s.Low-warm.High), max(0, s.High-warm.Low)
	return melt
}

// warmth returns how much snow melts in an hour if there is enough of it.
func warmth(c api.Catch, x api.SkyHour) api.Bounds {
	return api.Bounds{Low: c.Melt * max(0, x.Heat.Low), High: c.Melt * max(0, x.Heat.High)}
}

// drained returns what runs off of the water on the land.
func drained(c api.Catch, water api.Bounds) api.Bounds {
	share := c.Area * c.Percent
	return api.Bounds{Low: floor(share*water.Low, 10), High: ceil(share*water.High, 10)}
}
