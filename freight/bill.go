package freight

import "thalweg/api"

// dayMinutes are the minutes of a day, for which demurrage and despatch are agreed.
const dayMinutes = 1440

// complete reports whether there is all that a bill needs.
func (c call) complete() bool {
	return c.has(api.FactTons) && (len(c.Water) == 0 || c.has(api.FactLevel))
}

// value returns the value of the fact of a kind.
func (c call) value(kind api.FactKind) int { return c.of(kind)[0].Value }

// percent returns the percents of the bonus.
func (c call) percent() int {
	for _, x := range c.Water {
		if x.Below > c.value(api.FactLevel) {
			return x.Percent
		}
	}
	return 0
}

// bill settles a call that is complete.
func (c call) bill() api.FreightBill {
	n := c.count()
	b := api.FreightBill{
		Freight:   c.Rate * max(c.Tons, c.value(api.FactTons)),
		Demurrage: nearest(n.Over*c.Demurrage, dayMinutes),
		Despatch:  nearest(n.Saved*c.Despatch, dayMinutes),
	}
	b.Bonus = nearest(b.Freight*c.percent(), 100)
	b.Commission = nearest((b.Freight+b.Bonus)*c.Commission, 100)
	b.Total = b.Freight + b.Bonus + b.Demurrage - b.Despatch
	return b
}

// nearest returns the integer nearest to n / by, for an n that is not below 0; of two the greater one.
func nearest(n, by int) int { return (2*n + by) / (2 * by) }

// settle writes the payments of a bill into the balances of all parties.
func settle(balance []int, c api.Charter, b api.FreightBill) {
	balance[c.Shipper] -= b.Total
	balance[c.Carrier] += b.Total - b.Commission
	balance[c.Broker] += b.Commission
}
