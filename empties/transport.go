package empties

import (
	"iter"

	"thalweg/api"
)

// transport is a net with moves; spare is how many hulls each port has after them more than it wants, or below 0 if it has too few.
type transport struct {
	api.EmptyNet
	moves, spare []int
}

// newTransport returns the transport with these moves.
func newTransport(n api.EmptyNet, moves []int) transport {
	t := transport{n, moves, make([]int, len(n.Ports))}
	for i, p := range n.Ports {
		t.spare[i] = p.Has - p.Wants
	}
	for i, w := range n.Ways {
		t.spare[w.From] -= moves[i]
		t.spare[w.To] += moves[i]
	}
	return t
}

// cost returns what the moves cost.
func (t transport) cost() int {
	sum := 0
	for i, w := range t.Ways {
		sum += w.Cost * t.moves[i]
	}
	return sum
}

// lack returns how many hulls more are wanted than there are in ports that have too few.
func (t transport) lack() int {
	sum := 0
	for _, spare := range t.spare {
		sum += max(-spare, 0)
	}
	return sum
}

// arc is a change of the moves of a way: one hull more on it, from and to the ports of the way, or one less, as if it came back.
type arc struct {
	way, from, to int
	change, cost  int
	room          int // how many times the moves can be changed so
}

// arcs yields the changes that the moves of a way allow.
func (t transport) arcs(way int) iter.Seq[arc] {
	return func(yield func(arc) bool) {
		w, moves := t.Ways[way], t.moves[way]
		if moves < w.Room && !yield(arc{way: way, from: w.From, to: w.To, change: 1, cost: w.Cost, room: w.Room - moves}) {
			return
		}
		if moves > 0 {
			yield(arc{way: way, from: w.To, to: w.From, change: -1, cost: -w.Cost, room: moves})
		}
	}
}

// ports returns the ports for whose spare hulls a condition holds, each with the cost 0.
func (t transport) ports(holds func(spare int) bool) map[int]int {
	costs := map[int]int{}
	for port, spare := range t.spare {
		if holds(spare) {
			costs[port] = 0
		}
	}
	return costs
}

// fullest returns the transport in which as few hulls as possible are lacking, with the least cost of all of these: hulls are brought again and again on the cheapest routes that are left.
func fullest(n api.EmptyNet) transport {
	t := newTransport(n, make([]int, len(n.Ways)))
	for t.bring() {
	}
	return t
}

// bring changes the moves so that spare hulls get to a port with too few at the least cost for each, and reports whether any could.
func (t transport) bring() bool {
	r := t.routesToShort()
	first := t.nearest(r)
	if first < 0 {
		return false
	}
	last, hulls := first, t.spare[first]
	for a := range r.arcsFrom(first) {
		last, hulls = a.to, min(hulls, a.room)
	}
	hulls = min(hulls, -t.spare[last])
	for a := range r.arcsFrom(first) {
		t.moves[a.way] += a.change * hulls
	}
	t.spare[first] -= hulls
	t.spare[last] += hulls
	return true
}

// nearest returns the port with spare hulls that has the cheapest route, or -1.
func (t transport) nearest(r routes) int {
	best := -1
	for port := range len(t.Ports) {
		if t.spare[port] > 0 && r.reach(port) && (best < 0 || r.costs[port] < r.costs[best]) {
			best = port
		}
	}
	return best
}
