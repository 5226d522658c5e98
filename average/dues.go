package average

import (
	"thalweg/api"
	"thalweg/whole"
)

// bill is what the passes of a payer cost together, and how many there are.
type bill struct {
	cost, passes int
}

// newBills returns the bills of all who have valid passes.
func newBills(t api.Tariff, passes []api.DuePass) map[int]bill {
	bills := map[int]bill{}
	for _, x := range passes {
		b := bills[x.Payer]
		bills[x.Payer] = bill{b.cost + costOf(t, x), b.passes + 1}
	}
	return bills
}

// costOf returns what a pass costs.
func costOf(t api.Tariff, x api.DuePass) int {
	return t.Base + whole.Up(x.Tons*t.Tons+x.Length*t.Length, 100)
}

// due returns what is to be paid for a bill.
func (b bill) due(t api.Tariff) int {
	due := b.cost
	if b.passes >= t.Passes {
		due -= parts(b.cost, t.Off)
	}
	return min(due, t.Most)
}
