package empties

import (
	"iter"
	"math"
	"slices"
)

// unknown is the cost of a route that does not exist.
const unknown = math.MaxInt

// routes are the cheapest changes of the moves by which a hull more in a port becomes one more where the routes end: what they cost for each port, and the first arc, which has no room where a route ends.
type routes struct {
	costs []int
	arcs  []arc
}

// routes returns the routes from all ports. Costs begin with those of a map: its ports are where routes end.
func (t transport) routes(ends map[int]int) routes {
	r := routes{slices.Repeat([]int{unknown}, len(t.Ports)), make([]arc, len(t.Ports))}
	for port, cost := range ends {
		r.costs[port] = cost
	}
	// No cheapest route comes twice to a port, and so each has fewer arcs than there are ports.
	for range len(t.Ports) {
		if !r.improve(t) {
			break
		}
	}
	return r
}

// improve looks once at each arc whether a cheaper route begins with it, and reports whether any does.
func (r routes) improve(t transport) bool {
	better := false
	for way := range len(t.Ways) {
		for a := range t.arcs(way) {
			if r.reach(a.to) && r.costs[a.to]+a.cost < r.costs[a.from] {
				r.costs[a.from], r.arcs[a.from] = r.costs[a.to]+a.cost, a
				better = true
			}
		}
	}
	return better
}

// reach reports whether there is a route from a port.
func (r routes) reach(port int) bool {
	return r.costs[port] != unknown
}

// arcsFrom yields the arcs of the route from a port.
func (r routes) arcsFrom(port int) iter.Seq[arc] {
	return func(yield func(arc) bool) {
		for a := r.arcs[port]; a.room > 0; a = r.arcs[a.to] {
			if !yield(a) {
				return
			}
		}
	}
}

// routesToShort returns the routes that end where there are too few hulls.
func (t transport) routesToShort() routes {
	return t.routes(t.ports(func(spare int) bool { return spare < 0 }))
}

// cutOff returns the ports from which hulls could get to where there are too few: if any are lacking, these ports lack them together.
func (t transport) cutOff() []int {
	r := t.routesToShort()
	var ports []int
	for port := range len(t.Ports) {
		if r.reach(port) {
			ports = append(ports, port)
		}
	}
	return ports
}

// prices returns for each port what is saved with one hull more in it, which may stay anywhere. These are the lowest prices that prove the moves, if they have the least cost.
func (t transport) prices() []int {
	r := t.routes(t.ports(func(int) bool { return true }))
	prices := make([]int, len(t.Ports))
	for port, cost := range r.costs {
		prices[port] = -cost
	}
	return prices
}
