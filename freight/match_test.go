package freight_test

import (
	"math/rand"
	"slices"
	"testing"

	"thalweg/api"
)

// P7.1: the price and the trades, as in the example, and what decides if there are several prices.
func TestMatch(t *testing.T) {
	bids, asks := exampleOrders()
	most := func(first, price int) []api.FreightBid {
		var l []api.FreightBid
		for i := range api.MaxBids {
			l = append(l, order(first+i, api.MaxTons, price, api.MaxFreightMinute))
		}
		return l
	}
	var all []api.FreightTrade
	for i := range api.MaxBids {
		all = append(all, trade(i, 99-29+i, api.MaxTons))
	}
	type orders = []api.FreightBid
	type trades = []api.FreightTrade
	for _, c := range []struct {
		name       string
		bids, asks orders
		want       matched
	}{
		{"the example", bids, asks, matched{850, trades{trade(1, 3, 800), trade(1, 4, 200)}, api.OK}},
		{"bids and asks at one price", orders{order(1, 5, 7, 0)}, orders{order(2, 5, 7, 0)}, matched{7, trades{trade(1, 2, 5)}, api.OK}},
		{"a price of nothing", orders{order(0, 1, 0, 0)}, orders{order(99, 1, 0, 0)}, matched{0, trades{trade(0, 99, 1)}, api.OK}},
		{"the least of several prices", orders{order(1, 5, 9, 0)}, orders{order(2, 5, 7, 0)}, matched{7, trades{trade(1, 2, 5)}, api.OK}},
		{"a lesser price only with a lesser turnover", orders{order(1, 6, 9, 0)}, orders{order(2, 5, 7, 0), order(3, 1, 9, 0)}, matched{9, trades{trade(1, 2, 5), trade(1, 3, 1)}, api.OK}},
		{"the least difference is at a greater price", orders{order(1, 10, 100, 0), order(4, 5, 60, 0)}, orders{order(2, 10, 60, 0)}, matched{100, trades{trade(1, 2, 10)}, api.OK}},
		{"the least difference is at a lesser price", orders{order(1, 10, 100, 0)}, orders{order(2, 10, 50, 0), order(3, 5, 70, 0)}, matched{50, trades{trade(1, 2, 10)}, api.OK}},
		{"too much supply by as much as too much demand", orders{order(1, 10, 100, 0), order(4, 3, 60, 0)}, orders{order(2, 10, 60, 0), order(3, 3, 100, 0)}, matched{60, trades{trade(1, 2, 10)}, api.OK}},
		{"the bids with the greatest price first", orders{order(1, 5, 7, 0), order(2, 5, 9, 0), order(3, 5, 8, 0)}, orders{order(4, 15, 1, 0)}, matched{1, trades{trade(2, 4, 5), trade(3, 4, 5), trade(1, 4, 5)}, api.OK}},
		{"the asks with the least price first", orders{order(4, 15, 9, 0)}, orders{order(1, 5, 3, 0), order(2, 5, 1, 0), order(3, 5, 2, 0)}, matched{3, trades{trade(4, 2, 5), trade(4, 3, 5), trade(4, 1, 5)}, api.OK}},
		{"a greater price before an earlier minute", orders{order(1, 5, 7, 0), order(2, 5, 8, 9)}, orders{order(4, 9, 7, 0)}, matched{7, trades{trade(2, 4, 5), trade(1, 4, 4)}, api.OK}},
		{"a lesser price before an earlier minute", orders{order(4, 9, 8, 0)}, orders{order(1, 5, 8, 0), order(2, 5, 7, 9)}, matched{8, trades{trade(4, 2, 5), trade(4, 1, 4)}, api.OK}},
		{"of one price the earlier one, though its party comes later", orders{order(1, 5, 7, 2), order(2, 5, 7, 1)}, orders{order(1, 5, 7, 2), order(2, 4, 7, 1)}, matched{7, trades{trade(2, 2, 4), trade(2, 1, 1), trade(1, 1, 4)}, api.OK}},
		{"of one minute the party that comes first", orders{order(9, 5, 7, 1), order(3, 5, 7, 1)}, orders{order(8, 6, 7, 1), order(2, 3, 7, 1)}, matched{7, trades{trade(3, 2, 3), trade(3, 8, 2), trade(9, 8, 4)}, api.OK}},
		{"a party trades with itself", orders{order(5, 5, 7, 0)}, orders{order(5, 8, 6, 0)}, matched{6, trades{trade(5, 5, 5)}, api.OK}},
		{"bids for less and asks for more do not trade", orders{order(1, 5, 9, 5), order(2, 50, 4, 0)}, orders{order(3, 5, 8, 5), order(4, 50, 12, 0)}, matched{8, trades{trade(1, 3, 5)}, api.OK}},
		{"all that there can be", most(0, api.MaxRate), most(70, api.MaxRate), matched{api.MaxRate, all, api.OK}},
		{"nothing at all", nil, nil, matched{e: api.ErrNone}},
		{"no asks", bids, nil, matched{e: api.ErrNone}},
		{"no bids", nil, asks, matched{e: api.ErrNone}},
		{"all want too much", orders{order(1, 5, 6, 0), order(2, 5, 5, 0)}, orders{order(3, 5, 7, 0)}, matched{e: api.ErrNone}},
	} {
		if got := match(c.bids, c.asks); !got.same(c.want) {
			t.Errorf("%s: %v, want %v", c.name, got, c.want)
		}
	}
}

// P7.1, P7.8: the same ton by ton, and in any order.
func TestMatchAgainstTons(t *testing.T) {
	g := rand.New(rand.NewSource(1))
	seen, partly := map[api.Errno]int{}, 0
	for range 10000 {
		price := 1 + g.Intn(12)
		bids, asks := randomOrders(g, g.Intn(7), 9, price), randomOrders(g, g.Intn(7), 9, price)
		want := slowMatch(bids, asks, price)
		if got := match(bids, asks); !got.same(want) {
			t.Fatalf("%v, %v: %v, want %v", bids, asks, got, want)
		}
		if got := match(mixed(g, bids), mixed(g, asks)); !got.same(want) {
			t.Fatalf("%v, %v in another order: %v, want %v", bids, asks, got, want)
		}
		seen[want.e]++
		if len(want.trades) > 3 {
			partly++
		}
	}
	if seen[api.OK] < 3000 || seen[api.ErrNone] < 500 || partly < 500 {
		t.Error("too few cases:", seen, partly)
	}
}

// wantFair fails unless all trades are within what the orders say, and no price has a greater turnover.
func wantFair(t *testing.T, bids, asks []api.FreightBid, m matched) {
	t.Helper()
	bought, sold, turnover := map[int]int{}, map[int]int{}, 0
	for _, x := range m.trades {
		bought[x.Buyer] += x.Tons
		sold[x.Seller] += x.Tons
		turnover += x.Tons
		if x.Tons < 1 {
			t.Errorf("%v, %v: nothing is traded: %v", bids, asks, m)
		}
	}
	for _, b := range bids {
		if bought[b.Party] > b.Tons || bought[b.Party] > 0 && b.Price < m.price {
			t.Errorf("%v, %v: %v bought too much: %v", bids, asks, b, m)
		}
		delete(bought, b.Party)
	}
	for _, a := range asks {
		if sold[a.Party] > a.Tons || sold[a.Party] > 0 && a.Price > m.price {
			t.Errorf("%v, %v: %v sold too much: %v", bids, asks, a, m)
		}
		delete(sold, a.Party)
	}
	if len(bought)+len(sold) > 0 {
		t.Errorf("%v, %v: others trade: %v", bids, asks, m)
	}
	for _, b := range slices.Concat(bids, asks) {
		for p := b.Price - 1; p <= b.Price+1; p++ {
			if demand, supply := sums(bids, asks, p); min(demand, supply) > turnover {
				t.Errorf("%v, %v: %v, but a greater turnover at %d", bids, asks, m, p)
			}
		}
	}
}

// P7.10: on a large bourse, too, nobody buys for more, or sells for less, than they want, and no price has a greater turnover.
func TestMatchIsFair(t *testing.T) {
	g := rand.New(rand.NewSource(2))
	for range 1000 {
		bids, asks := randomOrders(g, api.MaxBids, api.MaxTons, api.MaxRate), randomOrders(g, api.MaxBids, api.MaxTons, api.MaxRate)
		m := match(bids, asks)
		if m.e != api.OK || len(m.trades) < 5 {
			t.Fatalf("%v, %v: %v", bids, asks, m)
		}
		wantFair(t, bids, asks, m)
	}
}
