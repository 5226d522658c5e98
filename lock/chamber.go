package lock

import (
	"thalweg/api"
	"thalweg/whole"
)

// chamber is the chamber of a valid lock, which is High or not at the moment, and by how much the water has changed until now. It is free from a minute on.
type chamber struct {
	api.Lock
	api.LockWater
	free, moves int
}

// lift takes tows up, or down, that may be taken together.
func (c *chamber) lift(up bool, tows ...api.LockTow) api.LockRun {
	if c.High == up {
		c.move(c.Turn)
	}
	for _, t := range tows {
		c.free = max(c.free, t.Arrive)
	}
	start := c.free
	c.move(c.Cycle)
	for range c.parts(tows...) - 1 {
		c.move(c.Turn)
		c.move(c.Cycle)
	}
	return api.LockRun{Start: start, End: c.free}
}

// move brings the chamber to the other level, in so many minutes.
func (c *chamber) move(minutes int) {
	if c.High {
		c.drain()
	} else {
		c.flood()
	}
	c.High = !c.High
	c.free += minutes
	c.moves++
}

// drain empties the chamber.
func (c *chamber) drain() {
	kept := c.Fill * c.Save / 100
	c.Chamber -= c.Fill
	c.Basin += kept
	c.Lower += c.Fill - kept
}

// flood fills the chamber. The basins never have more than it takes: they are emptied each time.
func (c *chamber) flood() {
	c.Chamber += c.Fill
	c.Upper -= c.Fill - c.Basin
	c.Basin = 0
}

// displace moves what a tow displaces from the reach that it leaves to the other one.
func (c *chamber) displace(t api.LockTow) {
	push := t.Push
	if !t.Up {
		push = -push
	}
	c.Upper -= push
	c.Lower += push
}

// holds reports whether tows may be taken together.
func (c *chamber) holds(tows ...api.LockTow) bool {
	return len(tows) == 1 || lengthOf(tows...) <= c.Length
}

// parts returns in how many parts tows are taken that may be taken together.
func (c *chamber) parts(tows ...api.LockTow) int {
	return whole.Up(lengthOf(tows...), c.Length)
}

// lengthOf returns how long tows are in all.
func lengthOf(tows ...api.LockTow) int {
	length := 0
	for _, t := range tows {
		length += t.Length
	}
	return length
}
