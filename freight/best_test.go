package freight_test

import (
	"math/rand"
	"slices"
	"testing"

	"thalweg/api"
)

// P7.7: the offers that pay most, as in the example, and what decides if several pay as much.
func TestBest(t *testing.T) {
	chain := func(n, pay int) []api.FreightOffer {
		var l []api.FreightOffer
		for i := range n {
			l = append(l, offer(i, i+1, i, i+1, pay))
		}
		return l
	}
	still := trip{slow: 1, cost: 1}
	type offers = []api.FreightOffer
	for _, c := range []struct {
		name   string
		l      offers
		t      trip
		offers []int
		gain   int
	}{
		{"the example", exampleOffers(), trip{0, 0, 5, 100}, []int{0, 1}, 90000},
		{"the example, from another place", exampleOffers(), trip{10, 0, 5, 100}, []int{1}, 31000},
		{"the example, from the other side", exampleOffers(), trip{190, 0, 5, 100}, []int{1}, 31000},
		{"the example, if moves take no time", exampleOffers(), trip{10, 0, 0, 100}, []int{0, 1}, 89000},
		{"the example, if moves cost nothing", exampleOffers(), trip{10, 0, 5, 0}, []int{1}, 40000},
		{"the example, at the last minute", exampleOffers(), trip{10, 250, 5, 100}, []int{1}, 31000},
		{"the example, a minute too late", exampleOffers(), trip{10, 251, 5, 100}, nil, 0},
		{"no offers", nil, still, nil, 0},
		{"an offer that begins when the hull is there", offers{offer(5, 9, 7, 8, 10)}, trip{5, 7, 1, 1}, []int{0}, 10},
		{"an offer that begins a minute before that", offers{offer(5, 9, 7, 8, 10)}, trip{5, 8, 0, 0}, nil, 0},
		{"a move down in time", offers{offer(5, 9, 8, 8, 10)}, trip{2, 2, 2, 3}, []int{0}, 1},
		{"a move down, a minute too late", offers{offer(5, 9, 8, 8, 10)}, trip{2, 3, 2, 3}, nil, 0},
		{"a move up in time", offers{offer(5, 9, 8, 8, 10)}, trip{8, 2, 2, 3}, []int{0}, 1},
		{"a move up, a minute too late", offers{offer(5, 9, 8, 8, 10)}, trip{8, 3, 2, 3}, nil, 0},
		{"a move that costs as much as the offer pays", offers{offer(5, 9, 8, 8, 9)}, trip{2, 2, 2, 3}, nil, 0},
		{"a move that costs more", offers{offer(5, 9, 8, 8, 8)}, trip{2, 2, 2, 3}, nil, 0},
		{"an offer that pays nothing", offers{offer(0, 9, 8, 8, 0)}, still, nil, 0},
		{"the second one begins when the first one ends", offers{offer(0, 5, 1, 4, 10), offer(5, 7, 4, 6, 10)}, still, []int{0, 1}, 20},
		{"the second one begins a minute before", offers{offer(0, 5, 1, 5, 10), offer(5, 7, 4, 6, 11)}, still, []int{0}, 10},
		{"a move between two offers in time", offers{offer(0, 5, 1, 4, 10), offer(8, 9, 7, 8, 10)}, still, []int{0, 1}, 17},
		{"a move between two offers, a minute too late", offers{offer(0, 5, 1, 4, 10), offer(8, 9, 6, 8, 10)}, trip{0, 0, 1, 0}, []int{0}, 10},
		{"after the last one there is no move", offers{offer(0, 100000, 0, 0, 10)}, trip{0, 0, 1000, 100000}, []int{0}, 10},
		{"by their begin, not by their indices", offers{offer(5, 9, 8, 9, 10), offer(0, 5, 2, 3, 10)}, still, []int{1, 0}, 20},
		{"by their begin, not by their end", offers{offer(0, 0, 2, 9, 10), offer(0, 0, 3, 4, 10)}, still, []int{0}, 10},
		{"of one begin by their indices", offers{offer(0, 1, 5, 5, 10), offer(1, 3, 5, 5, 10)}, still, []int{0, 1}, 20},
		{"of one begin not against their indices", offers{offer(1, 3, 5, 5, 10), offer(0, 1, 5, 5, 10)}, still, []int{1}, 10},
		{"of one begin, with moves that take no time", offers{offer(1, 3, 5, 5, 10), offer(0, 1, 5, 5, 10)}, trip{0, 0, 0, 1}, []int{0, 1}, 20 - 1 - 3},
		{"an offer that pays nothing saves a move", offers{offer(0, 5, 0, 5, 0), offer(5, 6, 9, 9, 10)}, still, []int{0, 1}, 10},
		{"an offer at a loss leads to a better one", offers{offer(5, 50, 5, 50, 1), offer(50, 51, 50, 51, 9)}, still, []int{0, 1}, 5},
		{"one offer pays as much as two", offers{offer(0, 0, 1, 2, 5), offer(0, 0, 3, 4, 5), offer(0, 0, 1, 4, 10)}, still, []int{2}, 10},
		{"two offers pay as much as one with a move", offers{offer(0, 0, 1, 2, 5), offer(0, 0, 3, 4, 5), offer(1, 0, 1, 4, 11)}, still, []int{2}, 10},
		{"two offers that pay as much", offers{offer(0, 1, 2, 9, 5), offer(0, 1, 1, 9, 5)}, still, []int{0}, 5},
		{"lists of two, of which one begins with a greater index", offers{offer(0, 0, 5, 9, 5), offer(0, 0, 2, 3, 5), offer(0, 0, 1, 3, 5), offer(0, 0, 3, 9, 5)}, still, []int{1, 0}, 10},
		{"lists of two that begin with one index", offers{offer(0, 0, 1, 3, 9), offer(0, 0, 9, 9, 0), offer(0, 0, 5, 9, 5), offer(0, 0, 4, 9, 5)}, still, []int{0, 2}, 14},
		{"all that there can be", chain(api.MaxOffers, api.MaxPay), still, []int{0, 1, 2, 3, 4, 5, 6, 7, 8, 9, 10, 11}, api.MaxOffers * api.MaxPay},
		{"the longest move that pays", offers{offer(api.MaxOfferPlace, 0, 100000, 100000, api.MaxPay)}, trip{0, 0, 1, 9999}, []int{0}, 100000},
		{"the longest move that does not pay", offers{offer(api.MaxOfferPlace, 0, 100000, 100000, api.MaxPay)}, trip{0, 0, 1, 10000}, nil, 0},
		{"the longest move, too slow", offers{offer(0, 0, 100000, 100000, api.MaxPay)}, trip{api.MaxOfferPlace, 0, api.MaxOfferSlow, 0}, nil, 0},
	} {
		if got := best(c.l, c.t); !got.same(chosen{c.offers, c.gain, api.OK}) {
			t.Errorf("%s: %v, want %v and %d", c.name, got, c.offers, c.gain)
		}
	}
}

// P7.7, P7.12: the same as with all sets of offers; with an offer more, no less is gained.
func TestBestAgainstAllSets(t *testing.T) {
	g := rand.New(rand.NewSource(9))
	lengths := map[int]int{}
	equal := 0
	for i := range 10000 {
		n := g.Intn(8)
		if i%200 == 0 {
			n = api.MaxOffers
		}
		place, minute := 1+g.Intn(6), 1+g.Intn(30)
		l, h := randomOffers(g, n, place, minute, 1+g.Intn(12)), randomTrip(g, place, minute)
		want := slowBest(l, h)
		got := best(l, h)
		if !got.same(want) {
			t.Fatalf("%v, %v: %v, want %v", l, h, got, want)
		}
		lengths[len(want.offers)]++
		for i := range l {
			fewer := best(slices.Delete(slices.Clone(l), i, i+1), h)
			if fewer.gain > got.gain {
				t.Fatalf("%v, %v: %v, but %v without %d", l, h, got, fewer, i)
			}
			if fewer.gain == got.gain && slices.Contains(got.offers, i) {
				equal++
			}
		}
	}
	if lengths[0] < 300 || lengths[1] < 300 || lengths[2] < 300 || lengths[3] < 300 || equal < 300 {
		t.Error("too few cases:", lengths, equal)
	}
}

// P7.7, P7.12: long lists with numbers up to their limits.
func TestBestOfLongLists(t *testing.T) {
	g := rand.New(rand.NewSource(10))
	long := 0
	for range 200 {
		l := randomOffers(g, api.MaxOffers, api.MaxOfferPlace, api.MaxFreightMinute, api.MaxPay)
		h := trip{g.Intn(api.MaxOfferPlace + 1), g.Intn(5000), g.Intn(2), g.Intn(20000)}
		want := slowBest(l, h)
		if got := best(l, h); !got.same(want) {
			t.Fatalf("%v, %v: %v, want %v", l, h, got, want)
		}
		if len(want.offers) > 3 {
			long++
		}
	}
	if long < 50 {
		t.Error("too few cases:", long)
	}
}
