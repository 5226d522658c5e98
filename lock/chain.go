package lock

import (
	"thalweg/api"
	"thalweg/whole"
)

// chain is the reaches and the locks of a valid chain.
type chain struct {
	reaches []api.LockReach
	locks   []api.LockTraffic
}

// volume returns the bounds of the volume of a reach at the end of a day.
func (c chain) volume(reach, day int) api.Bounds {
	r := c.reaches[reach]
	// What flows in and out is chosen independently, and anew each day: the ends are those of the ends.
	gain := whole.Sum(r.Inflow, c.moved(reach-1))
	loss := c.moved(reach)
	return api.Bounds{Low: r.Volume + day*(gain.Low-loss.High), High: r.Volume + day*(gain.High-loss.Low)}
}

// moved returns how much water a lock moves in a day; there is none above the first reach and none below the last one.
func (c chain) moved(lock int) api.Bounds {
	if lock < 0 || lock == len(c.locks) {
		return api.Bounds{}
	}
	t := c.locks[lock]
	return api.Bounds{Low: t.Fill * t.Cycles.Low, High: t.Fill * t.Cycles.High}
}
