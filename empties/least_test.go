package empties_test

import (
	"math/rand"
	"slices"
	"testing"

	"thalweg/api"
)

// P6.3: the least cost, as in the examples and at the ends of what there can be.
func TestMove(t *testing.T) {
	chain := api.EmptyNet{Ports: make([]api.EmptyPort, 60)}
	chain.Ports[0].Has, chain.Ports[59].Wants = 1000, 1000
	for i := range 59 {
		chain.Ways = append(chain.Ways, way(i, i+1, 1000000, 1000))
	}
	for _, c := range []struct {
		name string
		n    api.EmptyNet
		want number
	}{
		{"the example", example(), number{500, api.OK}},
		{"as many as there are", wanting(6, 9), number{700 + 200, api.OK}},
		{"all but one that is there", wanting(5, 9), number{550 + 150, api.OK}},
		{"one too many", wanting(7, 9), number{0, api.ErrNone}},
		{"too little room", wanting(6, 1), number{0, api.ErrNone}},
		{"just enough room", wanting(5, 1), number{700, api.OK}},
		{"nothing is wanted", wanting(0, 9), number{0, api.OK}},
		{"one port", api.EmptyNet{Ports: []api.EmptyPort{port(1000, 1000)}}, number{0, api.OK}},
		{"one port with too few", api.EmptyNet{Ports: []api.EmptyPort{port(999, 1000)}}, number{0, api.ErrNone}},
		{"a long chain", chain, number{59 * 1000 * 1000000, api.OK}},
		{"own hulls go on, and others come", api.EmptyNet{Ports: []api.EmptyPort{port(1, 0), port(1, 1), port(0, 1)}, Ways: []api.EmptyWay{way(0, 1, 1, 1), way(1, 2, 1, 1), way(0, 2, 3, 1)}}, number{2, api.OK}},
		{"the cheapest way first was wrong", api.EmptyNet{Ports: []api.EmptyPort{port(1, 0), port(1, 0), port(0, 1), port(0, 1)}, Ways: []api.EmptyWay{way(0, 2, 1, 1), way(0, 3, 2, 1), way(1, 2, 3, 1)}}, number{5, api.OK}},
		{"ways that cost nothing", api.EmptyNet{Ports: []api.EmptyPort{port(2, 0), port(0, 1), port(0, 1)}, Ways: []api.EmptyWay{way(0, 1, 0, 2), way(1, 0, 0, 2), way(1, 2, 0, 2), way(2, 1, 0, 2)}}, number{0, api.OK}},
		{"no room at all", api.EmptyNet{Ports: []api.EmptyPort{port(2, 0), port(0, 1)}, Ways: []api.EmptyWay{way(0, 1, 0, 0), way(1, 0, 0, 9)}}, number{0, api.ErrNone}},
	} {
		if got := leastCost(c.n); got != c.want {
			t.Errorf("%s: %v, want %v", c.name, got, c.want)
		}
		if c.want.e == api.OK {
			wantProven(t, c.n)
		} else if got := move(c.n); !got.same(moved{e: c.want.e}) {
			t.Errorf("%s: %v", c.name, got)
		}
	}
}

// P6.3, P6.7, P6.8: no possible moves cost less; ErrNone if no moves are possible.
func TestMoveAgainstAllMoves(t *testing.T) {
	g := rand.New(rand.NewSource(3))
	seen := map[api.Errno]int{}
	for range 10000 {
		n := randomNet(g, small)
		want := slowLeast(n)
		if got := leastCost(n); got != want {
			t.Fatalf("%v: %v, want %v", n, got, want)
		}
		seen[want.e]++
		if want.e == api.OK {
			wantProven(t, n)
		} else if got := move(n); !got.same(moved{e: want.e}) {
			t.Fatalf("%v: %v", n, got)
		}
	}
	if seen[api.OK] < 500 || seen[api.ErrNone] < 500 {
		t.Error("too few cases:", seen)
	}
}

// P6.3, P6.7, P6.8: larger nets: prices prove the moves, or a set of ports lacks hulls.
func TestMoveIsProven(t *testing.T) {
	g := rand.New(rand.NewSource(4))
	seen := map[api.Errno]int{}
	check := func(n api.EmptyNet) {
		t.Helper()
		e := move(n).e
		seen[e]++
		l := lacks(n)
		if lackOf(n, setOf(n, l.ports)) != l.lack || (l.lack == 0) != (e == api.OK) {
			t.Fatalf("%v: error %d, %v", n, e, l)
		}
		if e == api.OK {
			m := wantProven(t, n)
			if got := proves(n, m.moves, m.prices); got != (proof{true, api.OK}) {
				t.Fatalf("%v: %v", n, got)
			}
			if cost(n, m.moves) != bound(n, m.prices) {
				t.Fatalf("%v: not proven by the functions: %v", n, m)
			}
		}
	}
	for range 1000 {
		check(randomNet(g, middle))
	}
	for range 60 {
		check(fullNet(g, large))
		check(fullNet(g, sizes{ports: 60, ways: 300, hulls: 300, cost: 3, room: 1000}))
		check(fullNet(g, sizes{ports: 20, ways: 300, hulls: 1000, cost: 1000, room: 300}))
	}
	if seen[api.OK] < 100 || seen[api.ErrNone] < 100 {
		t.Error("too few cases:", seen)
	}
}

// P6.3: what proves moves, and what does not.
func TestProves(t *testing.T) {
	best := []int{3, 4, 0}
	yes, no := proof{true, api.OK}, proof{false, api.OK}
	pair := api.EmptyNet{Ports: []api.EmptyPort{port(2, 0), port(0, 1)}, Ways: []api.EmptyWay{way(0, 1, 10, 2)}}
	for _, c := range []struct {
		n             api.EmptyNet
		moves, prices []int
		want          proof
	}{
		{example(), best, []int{0, 150, 200}, yes}, {example(), best, []int{0, 100, 150}, yes}, {example(), best, []int{0, 125, 175}, yes},
		{example(), best, []int{0, 151, 201}, no}, {example(), best, []int{0, 99, 149}, no}, {example(), best, []int{1, 101, 151}, no},
		{example(), best, []int{0, 150, 199}, no}, {example(), best, []int{0, 149, 200}, no}, {example(), best, []int{0, 0, 0}, no},
		{example(), []int{2, 3, 1}, []int{0, 150, 200}, no}, {example(), []int{0, 0, 4}, []int{0, 150, 200}, no}, {example(), []int{3, 4, 1}, []int{0, 150, 200}, no},
		{example(), []int{3, 3, 1}, []int{0, 150, 200}, no},
		{pair, []int{1}, []int{0, 10}, yes}, {pair, []int{1}, []int{0, 9}, no}, {pair, []int{1}, []int{0, 11}, no}, {pair, []int{1}, []int{1, 11}, no},
		{pair, []int{2}, []int{0, 10}, no}, {pair, []int{2}, []int{0, 0}, no},
		{with(pair, 0, -1, 0), []int{1}, []int{5, 15}, yes}, {with(pair, 0, -1, 0), []int{1}, []int{5, 16}, no}, {with(pair, 0, -1, 0), []int{1}, []int{999999990, 1000000000}, yes},
		{with(pair, 0, 0, 1), []int{1}, []int{5, 15}, yes},
		{with(pair, 0, 0, 1), []int{0}, []int{5, 15}, proof{false, api.ErrState}}, {with(pair, 0, 0, 1), []int{3}, []int{5, 15}, proof{false, api.ErrRange}}, {pair, []int{-1}, []int{0, 10}, proof{false, api.ErrRange}},
		{pair, []int{1, 0}, []int{0, 10}, proof{false, api.ErrForm}}, {pair, nil, []int{0, 10}, proof{false, api.ErrForm}},
		{pair, []int{1}, []int{0}, proof{false, api.ErrForm}}, {pair, []int{1}, []int{0, 10, 20}, proof{false, api.ErrForm}}, {pair, []int{1}, nil, proof{false, api.ErrForm}},
		{pair, []int{1}, []int{-1, 9}, proof{false, api.ErrRange}}, {pair, []int{1}, []int{0, 1000000001}, proof{false, api.ErrRange}},
		{with(pair, 1, 1, 0), []int{0}, []int{0, 0}, yes}, {with(pair, 1, 1, 0), []int{0}, []int{0, 10}, yes}, {with(pair, 1, 1, 0), []int{0}, []int{0, 11}, no}, {with(pair, 1, 2, 0), []int{0}, []int{0, 1}, no},
		{api.EmptyNet{Ports: []api.EmptyPort{port(1, 1)}}, nil, []int{1000000000}, yes}, {api.EmptyNet{Ports: []api.EmptyPort{port(2, 1)}}, nil, []int{1}, no}, {api.EmptyNet{Ports: []api.EmptyPort{port(2, 1)}}, nil, []int{0}, yes},
	} {
		if got := proves(c.n, c.moves, c.prices); got != c.want {
			t.Errorf("%v, moves %v, prices %v: %v, want %v", c.n, c.moves, c.prices, got, c.want)
		}
	}
}

// P6.3, P6.7, P6.9: all moves and all low prices of random nets: prices prove only the least cost, no bound is greater, and one hull more saves at most each price.
func TestAllMovesAndPrices(t *testing.T) {
	g := rand.New(rand.NewSource(5))
	count := 0
	for range 600 {
		n := randomNet(g, sizes{ports: 3, ways: 3, hulls: 2, cost: 2, room: 2})
		least := slowLeast(n)
		for prices := range lists(slices.Repeat([]int{5}, len(n.Ports))...) {
			if got := bound(n, prices); got.e != api.OK || least.e == api.OK && got.n > least.n {
				t.Fatalf("%v, prices %v: %v, and the least cost is %v", n, prices, got, least)
			}
			for moves := range lists(rooms(n)...) {
				if !possible(n, moves) {
					continue
				}
				got := proves(n, moves, prices)
				if got != (proof{proven(n, moves, prices), api.OK}) || got.proves && costOf(n, moves) != least.n {
					t.Fatalf("%v, moves %v, prices %v: %v, and the least cost is %v", n, moves, prices, got, least)
				}
				if !got.proves {
					continue
				}
				count++
				for i, price := range prices {
					if m := more(n, i); m.e != api.OK || m.n > price {
						t.Fatalf("%v, prices %v: one more in %d saves %v", n, prices, i, m)
					}
				}
			}
		}
	}
	if count < 1000 {
		t.Error("too few cases:", count)
	}
}

// P6.5: what one hull more saves, as in the examples, and the errors.
func TestMore(t *testing.T) {
	full := with(example(), 1, 998, 0)
	for _, c := range []struct {
		n    api.EmptyNet
		port int
		want number
	}{
		{example(), 0, number{0, api.OK}}, {example(), 1, number{100, api.OK}}, {example(), 2, number{150, api.OK}},
		{wanting(6, 9), 0, number{0, api.OK}}, {wanting(6, 9), 1, number{150, api.OK}}, {wanting(6, 9), 2, number{200, api.OK}},
		{wanting(5, 1), 0, number{0, api.OK}}, {wanting(5, 1), 1, number{150, api.OK}}, {wanting(5, 1), 2, number{200, api.OK}},
		{wanting(0, 9), 2, number{0, api.OK}},
		{example(), 3, number{0, api.ErrNone}}, {example(), -1, number{0, api.ErrNone}},
		{full, 1, number{0, api.ErrFull}}, {full, 0, number{0, api.OK}}, {with(full, 1, -1, 0), 1, number{0, api.OK}},
		{wanting(7, 9), 0, number{0, api.ErrState}}, {wanting(7, 9), 2, number{0, api.ErrState}}, {wanting(7, 9), 3, number{0, api.ErrNone}},
		{with(wanting(7, 0), 0, 995, 0), 0, number{0, api.ErrFull}}, {with(wanting(7, 0), 0, 994, 0), 0, number{0, api.ErrState}},
	} {
		if got := more(c.n, c.port); got != c.want {
			t.Errorf("%v, port %d: %v, want %v", c.n, c.port, got, c.want)
		}
	}
}

// P6.5: one hull more saves the difference of the least costs of all moves.
func TestMoreAgainstAllMoves(t *testing.T) {
	g := rand.New(rand.NewSource(6))
	saved := 0
	for range 8000 {
		n := randomNet(g, small)
		least := slowLeast(n)
		for i := range n.Ports {
			want := number{0, api.ErrState}
			if least.e == api.OK {
				want = number{least.n - slowLeast(with(n, i, 1, 0)).n, api.OK}
			}
			if got := more(n, i); got != want {
				t.Fatalf("%v, port %d: %v, want %v", n, i, got, want)
			}
			saved += min(want.n, 1)
		}
	}
	if saved < 300 {
		t.Error("too few cases:", saved)
	}
}

// P6.5, P6.9: larger nets: one hull more never costs more, and saves at most its price; one more that is wanted never costs less.
func TestOneHullMore(t *testing.T) {
	g := rand.New(rand.NewSource(7))
	saved := 0
	check := func(n api.EmptyNet) {
		t.Helper()
		m := move(n)
		for i, p := range n.Ports {
			if m.e != api.OK || p.Has == 1000 || p.Wants == 1000 {
				continue
			}
			got, next, wanted := more(n, i), leastCost(with(n, i, 1, 0)), leastCost(with(n, i, 0, 1))
			if got != (number{m.cost - next.n, next.e}) || got.n < 0 || got.n > m.prices[i] {
				t.Fatalf("%v, port %d: %v, %v", n, i, got, next)
			}
			if wanted.e == api.OK && wanted.n < m.cost {
				t.Fatalf("%v, one more wanted in %d: %v", n, i, wanted)
			}
			saved += min(got.n, 1)
		}
	}
	for range 300 {
		check(randomNet(g, middle))
	}
	for range 3 {
		check(fullNet(g, large))
	}
	if saved < 200 {
		t.Error("too few cases:", saved)
	}
}
