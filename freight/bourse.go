package freight

import (
	"cmp"
	"slices"

	"thalweg/api"
)

// clearing is what a price brings about: the tons of the demand and of the supply.
type clearing struct {
	price, demand, supply int
}

// turnover returns how many tons are traded.
func (c clearing) turnover() int { return min(c.demand, c.supply) }

// gap returns the difference between demand and supply.
func (c clearing) gap() int { return max(c.demand, c.supply) - c.turnover() }

// compare compares clearings: the better one comes first.
func (c clearing) compare(x clearing) int {
	return cmp.Or(cmp.Compare(x.turnover(), c.turnover()), cmp.Compare(c.gap(), x.gap()), cmp.Compare(c.price, x.price))
}

// clearings returns what the prices of all orders bring about, the best first.
func clearings(bids, asks []api.FreightBid) []clearing {
	var l []clearing
	for _, b := range slices.Concat(bids, asks) {
		l = append(l, clearing{b.Price, tons(buyers(b.Price, bids)), tons(sellers(b.Price, asks))})
	}
	slices.SortFunc(l, clearing.compare)
	return l
}

// tons returns the sum of the tons of orders.
func tons(orders []api.FreightBid) int {
	sum := 0
	for _, b := range orders {
		sum += b.Tons
	}
	return sum
}

// buyers returns the bids that are in the demand, in the order in which they trade.
func buyers(price int, bids []api.FreightBid) []api.FreightBid {
	l := slices.DeleteFunc(slices.Clone(bids), func(b api.FreightBid) bool { return b.Price < price })
	slices.SortFunc(l, func(a, b api.FreightBid) int { return cmp.Or(cmp.Compare(b.Price, a.Price), compareTimes(a, b)) })
	return l
}

// sellers returns the asks that are in the supply, in the order in which they trade.
func sellers(price int, asks []api.FreightBid) []api.FreightBid {
	l := slices.DeleteFunc(slices.Clone(asks), func(b api.FreightBid) bool { return b.Price > price })
	slices.SortFunc(l, func(a, b api.FreightBid) int { return cmp.Or(cmp.Compare(a.Price, b.Price), compareTimes(a, b)) })
	return l
}

// compareTimes compares orders of the same price.
func compareTimes(a, b api.FreightBid) int {
	return cmp.Or(cmp.Compare(a.Minute, b.Minute), cmp.Compare(a.Party, b.Party))
}

// trade returns what bids and asks trade in their order, until one side has no tons left. It writes into both lists.
func trade(bids, asks []api.FreightBid) []api.FreightTrade {
	var l []api.FreightTrade
	for len(bids) > 0 && len(asks) > 0 {
		n := min(bids[0].Tons, asks[0].Tons)
		l = append(l, api.FreightTrade{Buyer: bids[0].Party, Seller: asks[0].Party, Tons: n})
		bids, asks = take(n, bids), take(n, asks)
	}
	return l
}

// take returns what is left of orders when the first one has traded so many tons.
func take(tons int, orders []api.FreightBid) []api.FreightBid {
	orders[0].Tons -= tons
	if orders[0].Tons == 0 {
		return orders[1:]
	}
	return orders
}
