package freight

import (
	"thalweg/api"
	"thalweg/valid"
)

// validParties reports whether all numbers can be parties.
func validParties(numbers ...int) bool {
	return valid.Within(0, api.MaxTraders-1, numbers...)
}

// validMinutes reports whether all numbers can be minutes.
func validMinutes(numbers ...int) bool {
	return valid.Within(0, api.MaxFreightMinute, numbers...)
}

// validOrder reports whether a bid or an ask is valid.
func validOrder(b api.FreightBid) bool {
	return validParties(b.Party) &&
		valid.Within(1, api.MaxTons, b.Tons) &&
		valid.Within(0, api.MaxRate, b.Price) &&
		validMinutes(b.Minute)
}

// checkOrders returns the error of the bids and asks on the bourse.
func checkOrders(bids, asks []api.FreightBid) api.Errno {
	switch {
	case len(bids) > api.MaxBids || len(asks) > api.MaxBids:
		return api.ErrLong
	case !valid.Every(bids, validOrder) || !valid.Every(asks, validOrder):
		return api.ErrArg
	case !apart(bids) || !apart(asks):
		return api.ErrTwice
	}
	return api.OK
}

// apart reports whether no two orders have the same party.
func apart(orders []api.FreightBid) bool {
	parties := map[int]bool{}
	for _, b := range orders {
		parties[b.Party] = true
	}
	return len(parties) == len(orders)
}

// validCharter reports whether a charter is valid.
func validCharter(c api.Charter) bool {
	return validParties(c.Shipper, c.Carrier, c.Broker) &&
		valid.Within(0, api.MaxRate, c.Rate) &&
		valid.Within(0, api.MaxTons, c.Tons) &&
		validMinutes(c.Laytime, c.Notice) &&
		valid.Within(0, api.MaxDayRate, c.Demurrage, c.Despatch) &&
		valid.Within(0, 100, c.Commission) &&
		validWater(c.Water)
}

// validWater reports whether a charter can have a bonus table.
func validWater(rows []api.LowWater) bool {
	if len(rows) > api.MaxLowWater {
		return false
	}
	for i, x := range rows {
		if !valid.Within(0, api.MaxLevel, x.Below) || !valid.Within(0, api.MaxBonus, x.Percent) {
			return false
		}
		if i > 0 && x.Below <= rows[i-1].Below {
			return false
		}
	}
	return true
}

// checkCharters returns the error of charters that are settled together.
func checkCharters(l []api.Charter) api.Errno {
	return valid.List(l, api.MaxCharters, validCharter)
}

// checkFree returns the error of free times.
func checkFree(l []api.FreeTime) api.Errno {
	return valid.List(l, api.MaxFree, func(x api.FreeTime) bool { return validMinutes(x.From, x.To) && x.From <= x.To })
}

// validMessage reports whether a message is valid.
func validMessage(m api.FreightMessage) bool {
	return valid.Within(0, api.MaxCharters-1, m.Charter) &&
		valid.Within(0, api.MaxMessageNumber, m.Number) &&
		valid.Within(0, api.MaxRevision, m.Revision) &&
		valid.Within(int(api.FactNotice), int(api.FactWithdrawn), int(m.Kind)) &&
		validMinutes(m.Minute) &&
		valid.Within(0, api.MaxTons, m.Value)
}

// checkMessages returns the first of the errors of messages.
func checkMessages(l []api.FreightMessage) api.Errno {
	_, e := newEditions(l)
	return e
}

// checkAbout returns the error of messages about so many charters.
func checkAbout(l []api.FreightMessage, charters int) api.Errno {
	known := valid.Every(l, func(m api.FreightMessage) bool { return m.Charter < charters })
	return valid.Unless(known, api.ErrNone)
}

// validOffer reports whether an offer is valid.
func validOffer(o api.FreightOffer) bool {
	return validPlaces(o.From, o.To) &&
		validMinutes(o.Begin, o.End) && o.Begin <= o.End &&
		valid.Within(0, api.MaxPay, o.Pay)
}

// validPlaces reports whether offers and hulls can be at all these places.
func validPlaces(numbers ...int) bool {
	return valid.Within(0, api.MaxOfferPlace, numbers...)
}

// checkOffers returns the error of offers.
func checkOffers(l []api.FreightOffer) api.Errno {
	return valid.List(l, api.MaxOffers, validOffer)
}

// checkHull returns the error of where a hull is, and of how it moves.
func checkHull(place, minute, slow, cost int) api.Errno {
	fits := validPlaces(place) && validMinutes(minute) &&
		valid.Within(0, api.MaxOfferSlow, slow) &&
		valid.Within(0, api.MaxOfferCost, cost)
	return valid.Unless(fits, api.ErrRange)
}
