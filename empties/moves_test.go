package empties_test

import (
	"math/rand"
	"slices"
	"testing"

	"thalweg/api"
	"thalweg/cases"
	"thalweg/empties"
)

// wantNet fails unless a net is valid, or has ErrArg in all functions before all else.
func wantNet(t *testing.T, name any, n api.EmptyNet, ok bool) {
	t.Helper()
	if e := empties.Check(n); e != cases.Error(ok, api.ErrArg) {
		t.Errorf("%v: Check: %d", name, e)
	}
	for _, x := range replies(args{n: n, port: -1, weeks: goodArgs().weeks}) {
		if x.takesNet && (x.e == api.ErrArg) == ok || x.wrong() {
			t.Errorf("%v: %v", name, x)
		}
	}
}

// P6.1: each number of a net, at the ends of what is valid and outside.
func TestCheckNumbers(t *testing.T) {
	wantNet(t, "the example", example(), true)
	for _, c := range cases.Numbers(0, 1000) {
		for i := range 3 {
			n := example()
			n.Ports[i].Has = c.N
			wantNet(t, n, n, c.OK)
			n = example()
			n.Ports[i].Wants = c.N
			wantNet(t, n, n, c.OK)
			n = example()
			n.Ways[i].Room = c.N
			wantNet(t, n, n, c.OK)
		}
	}
	for _, c := range cases.Numbers(0, 1000000) {
		for i := range 3 {
			n := example()
			n.Ways[i].Cost = c.N
			wantNet(t, n, n, c.OK)
		}
	}
	for _, from := range cases.Numbers(0, 2) {
		for _, to := range cases.Numbers(0, 2) {
			for i := range 3 {
				n := example()
				n.Ways[i].From, n.Ways[i].To = from.N, to.N
				wantNet(t, n, n, from.OK && to.OK && from.N != to.N)
			}
		}
	}
}

// P6.1: how many ports and ways a net has.
func TestCheckCounts(t *testing.T) {
	for _, c := range cases.Numbers(1, 60) {
		if c.N >= 0 && c.N < 100 {
			wantNet(t, c.N, api.EmptyNet{Ports: make([]api.EmptyPort, c.N)}, c.OK)
		}
	}
	for _, ways := range []int{0, 1, 299, 300, 301, 1000} {
		n := example()
		n.Ways = slices.Repeat([]api.EmptyWay{way(2, 1, 5, 5)}, ways)
		wantNet(t, ways, n, ways <= 300)
	}
	n := api.EmptyNet{Ports: make([]api.EmptyPort, 60), Ways: []api.EmptyWay{way(59, 0, 0, 0), way(0, 59, 0, 0), way(59, 0, 1, 1)}}
	wantNet(t, "the last port", n, true)
	n.Ways[2].To = 60
	wantNet(t, "behind the last port", n, false)
}

// P6.1: what moves cost, as in the examples and at the ends of what is possible.
func TestCost(t *testing.T) {
	through := api.EmptyNet{Ports: []api.EmptyPort{port(1, 0), port(0, 0), port(0, 1)}, Ways: []api.EmptyWay{way(0, 1, 3, 1), way(1, 2, 4, 1)}}
	circle := api.EmptyNet{Ports: make([]api.EmptyPort, 2), Ways: []api.EmptyWay{way(0, 1, 7, 2), way(1, 0, 5, 2)}}
	twice := api.EmptyNet{Ports: []api.EmptyPort{port(9, 0), port(0, 5)}, Ways: []api.EmptyWay{way(0, 1, 7, 3), way(0, 1, 7, 3)}}
	most := api.EmptyNet{Ports: []api.EmptyPort{port(1000, 0), port(1000, 1000)}, Ways: slices.Repeat([]api.EmptyWay{way(0, 1, 1000000, 1000), way(1, 0, 1000000, 1000)}, 150)}
	const ok, arg, form, state = api.OK, api.ErrRange, api.ErrForm, api.ErrState
	for _, c := range []struct {
		n     api.EmptyNet
		moves []int
		want  number
	}{
		{example(), []int{3, 4, 0}, number{500, ok}}, {example(), []int{0, 0, 4}, number{800, ok}}, {example(), []int{0, 1, 3}, number{650, ok}}, {example(), []int{3, 4, 2}, number{900, ok}},
		{example(), []int{0, 0, 3}, number{0, state}}, {example(), []int{3, 5, 0}, number{0, state}}, {example(), []int{3, 4, 3}, number{0, state}}, {example(), []int{0, 9, 0}, number{0, state}}, {example(), []int{0, 0, 0}, number{0, state}},
		{example(), []int{4, 5, 0}, number{0, arg}}, {example(), []int{-1, 0, 4}, number{0, arg}}, {example(), []int{3, 4, -1}, number{0, arg}}, {example(), []int{3, 10, 0}, number{0, arg}},
		{example(), nil, number{0, form}}, {example(), []int{3, 4}, number{0, form}}, {example(), []int{3, 4, 0, 0}, number{0, form}},
		{through, []int{1, 1}, number{7, ok}}, {through, []int{1, 0}, number{0, state}}, {through, []int{0, 1}, number{0, state}},
		{circle, []int{0, 0}, number{0, ok}}, {circle, []int{2, 2}, number{24, ok}}, {circle, []int{1, 2}, number{0, state}},
		{twice, []int{3, 2}, number{35, ok}}, {twice, []int{3, 3}, number{42, ok}}, {twice, []int{2, 2}, number{0, state}},
		{api.EmptyNet{Ports: []api.EmptyPort{port(4, 4)}}, nil, number{0, ok}}, {api.EmptyNet{Ports: []api.EmptyPort{port(4, 5)}}, nil, number{0, state}},
		{most, slices.Repeat([]int{1000}, 300), number{300 * 1000 * 1000000, ok}},
	} {
		if got := cost(c.n, c.moves); got != c.want {
			t.Errorf("%v, moves %v: %v, want %v", c.n, c.moves, got, c.want)
		}
	}
}

// P6.1: the cost of all moves of random nets, and of some outside of the rooms.
func TestCostOfAllMoves(t *testing.T) {
	g := rand.New(rand.NewSource(1))
	seen := map[api.Errno]int{}
	for range 300 {
		n := randomNet(g, small)
		for moves := range lists(rooms(n)...) {
			want := number{costOf(n, moves), api.OK}
			if !possible(n, moves) {
				want = number{0, api.ErrState}
			}
			if got := cost(n, moves); got != want {
				t.Fatalf("%v, moves %v: %v, want %v", n, moves, got, want)
			}
			seen[want.e]++
		}
		for i, w := range n.Ways {
			for _, c := range cases.Numbers(0, w.Room) {
				moves := make([]int, len(n.Ways))
				moves[i] = c.N
				if got := cost(n, moves); (got.e == api.ErrRange) == c.OK {
					t.Fatalf("%v, moves %v: %v", n, moves, got)
				}
			}
		}
	}
	if seen[api.OK] < 100 || seen[api.ErrState] < 100 {
		t.Error("too few cases:", seen)
	}
}

// P6.2: the bound of prices, as in the examples and at the ends of what is valid.
func TestBound(t *testing.T) {
	const most = 1000000000
	one := api.EmptyNet{Ports: []api.EmptyPort{port(3, 1)}}
	two := api.EmptyNet{Ports: []api.EmptyPort{port(3, 0), port(0, 2)}, Ways: []api.EmptyWay{way(0, 1, 10, 5), way(1, 0, 4, 7)}}
	full := api.EmptyNet{Ports: slices.Repeat([]api.EmptyPort{port(1000, 0)}, 60), Ways: slices.Repeat([]api.EmptyWay{way(0, 1, 0, 1000)}, 300)}
	high := slices.Repeat([]int{most}, 60)
	high[0] = 0
	for _, c := range []struct {
		n      api.EmptyNet
		prices []int
		want   number
	}{
		{example(), []int{0, 150, 200}, number{500, api.OK}}, {example(), []int{0, 100, 150}, number{500, api.OK}}, {example(), []int{0, 0, 0}, number{0, api.OK}},
		{example(), []int{0, 150, 201}, number{150*-1 + 201*4 - 3*50 - 9*1 - 9*1, api.OK}}, {example(), []int{1, 101, 151}, number{1*-5 + 101*-1 + 151*4, api.OK}}, {example(), []int{1000, 0, 0}, number{-5000, api.OK}},
		{one, []int{7}, number{-14, api.OK}}, {one, []int{most}, number{-2 * most, api.OK}},
		{two, []int{0, 10}, number{20, api.OK}}, {two, []int{0, 11}, number{22 - 5, api.OK}}, {two, []int{5, 0}, number{-15 - 7, api.OK}}, {two, []int{4, 0}, number{-12, api.OK}}, {two, []int{0, 4}, number{8, api.OK}}, {two, []int{5, 5}, number{-5, api.OK}},
		{full, high, number{-59*1000*most - 300*1000*most, api.OK}},
		{example(), nil, number{0, api.ErrForm}}, {example(), []int{0, 150}, number{0, api.ErrForm}}, {example(), []int{0, 150, 200, 0}, number{0, api.ErrForm}}, {two, []int{0, 10, 10}, number{0, api.ErrForm}},
		{example(), []int{0, 150, 5, -1}, number{0, api.ErrForm}},
	} {
		if got := bound(c.n, c.prices); got != c.want {
			t.Errorf("%v, prices %v: %v, want %v", c.n, c.prices, got, c.want)
		}
	}
	for _, c := range cases.Numbers(0, most) {
		for i := range 3 {
			prices := []int{0, 150, 200}
			prices[i] = c.N
			want := number{0, api.ErrRange}
			if c.OK {
				want = number{boundOf(example(), prices), api.OK}
			}
			if got := bound(example(), prices); got != want {
				t.Errorf("prices %v: %v, want %v", prices, got, want)
			}
		}
	}
}

// P6.2: random prices.
func TestBoundOfRandomPrices(t *testing.T) {
	g := rand.New(rand.NewSource(2))
	for _, s := range []sizes{small, middle, large} {
		for range 300 {
			n := randomNet(g, s)
			for _, most := range []int{2 * s.cost, 1000000000} {
				prices := randomList(g, len(n.Ports), most)
				if got, want := bound(n, prices), (number{boundOf(n, prices), api.OK}); got != want {
					t.Fatalf("%v, prices %v: %v, want %v", n, prices, got, want)
				}
			}
		}
	}
}
