package empties_test

import (
	"iter"
	"math/rand"
	"slices"
	"testing"

	"thalweg/api"
	"thalweg/empties"
)

// port and way return a part of a net.
func port(has, wants int) api.EmptyPort { return api.EmptyPort{Has: has, Wants: wants} }

func way(from, to, cost, room int) api.EmptyWay {
	return api.EmptyWay{From: from, To: to, Cost: cost, Room: room}
}

// example returns the net of the chapter's examples, as new memory.
func example() api.EmptyNet {
	return api.EmptyNet{
		Ports: []api.EmptyPort{port(5, 0), port(2, 1), port(0, 4)},
		Ways:  []api.EmptyWay{way(0, 1, 100, 3), way(1, 2, 50, 9), way(0, 2, 200, 9)},
	}
}

// wanting returns the net of the examples in which the port 2 wants so many hulls, and the way 0 to 2 has so much room.
func wanting(hulls, room int) api.EmptyNet {
	n := example()
	n.Ports[2].Wants = hulls
	n.Ways[2].Room = room
	return n
}

// cloneNet returns a net as new memory.
func cloneNet(n api.EmptyNet) api.EmptyNet {
	return api.EmptyNet{Ports: slices.Clone(n.Ports), Ways: slices.Clone(n.Ways)}
}

// with returns a net with so many hulls more in a port, and so many more wanted there.
func with(n api.EmptyNet, port, has, wants int) api.EmptyNet {
	n = cloneNet(n)
	n.Ports[port].Has += has
	n.Ports[port].Wants += wants
	return n
}

// number is an integer, and an error.
type number struct {
	n int
	e api.Errno
}

func cost(n api.EmptyNet, moves []int) number {
	x, e := empties.Cost(n, moves)
	return number{x, e}
}

func bound(n api.EmptyNet, prices []int) number {
	x, e := empties.Bound(n, prices)
	return number{x, e}
}

func more(n api.EmptyNet, port int) number {
	x, e := empties.More(n, port)
	return number{x, e}
}

// moved is what Move returns.
type moved struct {
	moves  []int
	cost   int
	prices []int
	e      api.Errno
}

func move(n api.EmptyNet) moved {
	moves, cost, prices, e := empties.Move(n)
	return moved{moves, cost, prices, e}
}

// same reports whether two of them are equal.
func (m moved) same(x moved) bool {
	return slices.Equal(m.moves, x.moves) && m.cost == x.cost && slices.Equal(m.prices, x.prices) && m.e == x.e
}

// leastCost returns the least cost, without moves that have it.
func leastCost(n api.EmptyNet) number {
	m := move(n)
	return number{m.cost, m.e}
}

// lacking is what Lacks returns.
type lacking struct {
	ports []int
	lack  int
	e     api.Errno
}

func lacks(n api.EmptyNet) lacking {
	ports, lack, e := empties.Lacks(n)
	return lacking{ports, lack, e}
}

// same reports whether two of them are equal.
func (l lacking) same(x lacking) bool {
	return slices.Equal(l.ports, x.ports) && l.lack == x.lack && l.e == x.e
}

// proof is what Proves returns.
type proof struct {
	proves bool
	e      api.Errno
}

func proves(n api.EmptyNet, moves, prices []int) proof {
	ok, e := empties.Proves(n, moves, prices)
	return proof{ok, e}
}

// stock returns how many hulls a port has after moves.
func stock(n api.EmptyNet, moves []int, port int) int {
	hulls := n.Ports[port].Has
	for i, w := range n.Ways {
		if w.To == port {
			hulls += moves[i]
		}
		if w.From == port {
			hulls -= moves[i]
		}
	}
	return hulls
}

// possible reports whether moves are.
func possible(n api.EmptyNet, moves []int) bool {
	for i, w := range n.Ways {
		if moves[i] < 0 || moves[i] > w.Room {
			return false
		}
	}
	for i, p := range n.Ports {
		if stock(n, moves, i) < p.Wants {
			return false
		}
	}
	return true
}

// costOf returns the cost of moves.
func costOf(n api.EmptyNet, moves []int) int {
	sum := 0
	for i, hulls := range moves {
		sum += n.Ways[i].Cost * hulls
	}
	return sum
}

// boundOf returns the bound of prices: the sum of the worth of all hulls that are wanted, less those that are there, less what the ways can earn.
func boundOf(n api.EmptyNet, prices []int) int {
	wanted, had, earned := 0, 0, 0
	for i, p := range n.Ports {
		wanted += p.Wants * prices[i]
		had += p.Has * prices[i]
	}
	for _, w := range n.Ways {
		if gap := prices[w.To] - prices[w.From] - w.Cost; gap > 0 {
			earned += gap * w.Room
		}
	}
	return wanted - had - earned
}

// proven reports whether prices prove possible moves.
func proven(n api.EmptyNet, moves, prices []int) bool {
	for i, w := range n.Ways {
		cheap := prices[w.To] < prices[w.From]+w.Cost
		dear := prices[w.To] > prices[w.From]+w.Cost
		if cheap && moves[i] != 0 || dear && moves[i] != w.Room {
			return false
		}
	}
	for i, p := range n.Ports {
		if stock(n, moves, i) > p.Wants && prices[i] != 0 {
			return false
		}
	}
	return true
}

// lists yields all lists with one integer from 0 to each of the numbers.
func lists(most ...int) iter.Seq[[]int] {
	return func(yield func([]int) bool) {
		l := make([]int, len(most))
		for {
			if !yield(slices.Clone(l)) {
				return
			}
			i := 0
			for i < len(l) && l[i] == most[i] {
				l[i] = 0
				i++
			}
			if i == len(l) {
				return
			}
			l[i]++
		}
	}
}

// rooms returns the rooms of all ways.
func rooms(n api.EmptyNet) []int {
	var l []int
	for _, w := range n.Ways {
		l = append(l, w.Room)
	}
	return l
}

// slowLeast tries all moves: it returns the least cost of those that are possible, or ErrNone.
func slowLeast(n api.EmptyNet) number {
	best := number{0, api.ErrNone}
	for moves := range lists(rooms(n)...) {
		if c := costOf(n, moves); possible(n, moves) && (best.e != api.OK || c < best.n) {
			best = number{c, api.OK}
		}
	}
	return best
}

// lackOf returns the lack of a set of ports; its elements are 1, the others 0.
func lackOf(n api.EmptyNet, set []int) int {
	lack := 0
	for i, p := range n.Ports {
		lack += set[i] * (p.Wants - p.Has)
	}
	for _, w := range n.Ways {
		if set[w.From] == 0 && set[w.To] == 1 {
			lack -= w.Room
		}
	}
	return lack
}

// setOf returns the set with these ports.
func setOf(n api.EmptyNet, ports []int) []int {
	set := make([]int, len(n.Ports))
	for _, p := range ports {
		set[p] = 1
	}
	return set
}

// slowLacks tries all sets.
func slowLacks(n api.EmptyNet) lacking {
	var best lacking
	var in []int
	for set := range lists(slices.Repeat([]int{1}, len(n.Ports))...) {
		lack := lackOf(n, set)
		if in == nil || lack > best.lack {
			best.lack, in = lack, set
		} else if lack == best.lack {
			for i := range in {
				in[i] *= set[i]
			}
		}
	}
	for i, x := range in {
		if x == 1 {
			best.ports = append(best.ports, i)
		}
	}
	return best
}

// sizes are the greatest numbers of a random net.
type sizes struct {
	ports, ways, hulls, cost, room int
}

// small nets are for trying all moves, large ones have the limits.
var (
	small  = sizes{ports: 4, ways: 5, hulls: 3, cost: 4, room: 3}
	middle = sizes{ports: 9, ways: 30, hulls: 20, cost: 40, room: 12}
	large  = sizes{ports: 60, ways: 300, hulls: 1000, cost: 1000000, room: 1000}
)

// randomNet returns a valid net; in some of them the ports that want hulls have few.
func randomNet(g *rand.Rand, s sizes) api.EmptyNet {
	var n api.EmptyNet
	apart := g.Intn(2) == 0
	for range 1 + g.Intn(s.ports) {
		p := port(g.Intn(s.hulls+1), g.Intn(s.hulls+1))
		if apart && g.Intn(2) == 0 {
			p.Has = 0
		} else if apart {
			p.Wants = g.Intn(p.Has + 1)
		}
		n.Ports = append(n.Ports, p)
	}
	for range s.ways - g.Intn(s.ways+1)*g.Intn(2) {
		if len(n.Ports) > 1 {
			n.Ways = append(n.Ways, randomWay(g, len(n.Ports), s))
		}
	}
	return n
}

// fullNet returns a random net with all the ports and ways that there may be.
func fullNet(g *rand.Rand, s sizes) api.EmptyNet {
	n := api.EmptyNet{Ports: make([]api.EmptyPort, s.ports), Ways: make([]api.EmptyWay, s.ways)}
	for i := range n.Ports {
		if g.Intn(2) == 0 {
			n.Ports[i].Has = g.Intn(s.hulls + 1)
		} else {
			n.Ports[i].Wants = g.Intn(s.hulls/2 + 1)
		}
	}
	for i := range n.Ways {
		n.Ways[i] = randomWay(g, s.ports, s)
	}
	return n
}

// randomWay returns a valid way for so many ports.
func randomWay(g *rand.Rand, ports int, s sizes) api.EmptyWay {
	l := g.Perm(ports)
	return way(l[0], l[1], g.Intn(s.cost+1), g.Intn(s.room+1))
}

// randomList returns so many integers from 0 to a number.
func randomList(g *rand.Rand, n, most int) []int {
	var l []int
	for range n {
		l = append(l, g.Intn(most+1))
	}
	return l
}

// wantProven fails unless the moves have the least cost, as the prices prove; it returns them.
func wantProven(t *testing.T, n api.EmptyNet) moved {
	t.Helper()
	m := move(n)
	if m.e != api.OK || len(m.moves) != len(n.Ways) || len(m.prices) != len(n.Ports) {
		t.Fatalf("%v: %v", n, m)
	}
	if !possible(n, m.moves) || m.cost != costOf(n, m.moves) {
		t.Errorf("%v: not possible, or another cost: %v", n, m)
	}
	if slices.Min(m.prices) < 0 || slices.Max(m.prices) > api.MaxEmptyPrice {
		t.Errorf("%v: not prices: %v", n, m)
	}
	if !proven(n, m.moves, m.prices) || boundOf(n, m.prices) != m.cost {
		t.Errorf("%v: not proven: %v", n, m)
	}
	return m
}
