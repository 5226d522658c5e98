package freight_test

import (
	"testing"

	"thalweg/api"
	"thalweg/cases"
	"thalweg/freight"
)

// field is a number in a value, from 0, or another least one, to a greatest one.
type field[T any] struct {
	name      string
	of        func(*T) *int
	low, high int
}

// wantFields fails unless each number of a value is accepted just within its limits.
func wantFields[T any](t *testing.T, value T, fields []field[T], check func(T) []api.Errno) {
	t.Helper()
	for _, f := range fields {
		for _, c := range cases.Numbers(f.low, f.high) {
			x := value
			*f.of(&x) = c.N
			for i, e := range check(x) {
				if e != cases.Error(c.OK, api.ErrArg) {
					t.Errorf("%s %d: call %d: %d", f.name, c.N, i, e)
				}
			}
		}
	}
}

// P7.1: bids and asks.
func TestValidOrders(t *testing.T) {
	fields := []field[api.FreightBid]{
		{"Party", func(b *api.FreightBid) *int { return &b.Party }, 0, 99},
		{"Tons", func(b *api.FreightBid) *int { return &b.Tons }, 1, 1000000},
		{"Price", func(b *api.FreightBid) *int { return &b.Price }, 0, 1000000},
		{"Minute", func(b *api.FreightBid) *int { return &b.Minute }, 0, 100000},
	}
	low, high := order(7, 5, 0, 0), order(8, 5, 1000000, 0)
	wantFields(t, order(9, 5, 500, 50), fields, func(b api.FreightBid) []api.Errno {
		return []api.Errno{
			match([]api.FreightBid{b, high}, []api.FreightBid{low}).e, match([]api.FreightBid{high, b}, []api.FreightBid{low}).e,
			match([]api.FreightBid{high}, []api.FreightBid{b, low}).e, match([]api.FreightBid{high}, []api.FreightBid{low, b}).e,
		}
	})
}

// chartered calls all functions with a charter.
func chartered(c api.Charter) []api.Errno {
	l := append(between(0, 9), value(1, api.FactTons, 5), value(2, api.FactLevel, 5))
	return []api.Errno{
		freight.CheckCharter(c), laytime(c, nil, l).e, bill(c, nil, l).e,
		balance([]api.Charter{c}, nil, l).e, balance([]api.Charter{{}, c, {}}, nil, nil).e,
	}
}

// P7.3: the numbers of charters.
func TestValidCharters(t *testing.T) {
	fields := []field[api.Charter]{
		{"Shipper", func(c *api.Charter) *int { return &c.Shipper }, 0, 99},
		{"Carrier", func(c *api.Charter) *int { return &c.Carrier }, 0, 99},
		{"Broker", func(c *api.Charter) *int { return &c.Broker }, 0, 99},
		{"Rate", func(c *api.Charter) *int { return &c.Rate }, 0, 1000000},
		{"Tons", func(c *api.Charter) *int { return &c.Tons }, 0, 1000000},
		{"Laytime", func(c *api.Charter) *int { return &c.Laytime }, 0, 100000},
		{"Notice", func(c *api.Charter) *int { return &c.Notice }, 0, 100000},
		{"Demurrage", func(c *api.Charter) *int { return &c.Demurrage }, 0, 100000000},
		{"Despatch", func(c *api.Charter) *int { return &c.Despatch }, 0, 100000000},
		{"Commission", func(c *api.Charter) *int { return &c.Commission }, 0, 100},
	}
	c, _, _ := example()
	wantFields(t, c, fields, chartered)
	wantFields(t, api.Charter{}, fields, chartered)
}

// P7.3: the rows of charters.
func TestValidWater(t *testing.T) {
	rows := func(below ...int) []api.LowWater {
		var l []api.LowWater
		for _, n := range below {
			l = append(l, api.LowWater{Below: n, Percent: 10})
		}
		return l
	}
	for _, c := range []struct {
		rows []api.LowWater
		ok   bool
	}{
		{nil, true}, {rows(0), true}, {rows(10000), true}, {rows(0, 1, 2, 3, 9999, 10000), true}, {rows(1, 2, 3, 4, 5, 6, 7, 8, 9, 10), true},
		{rows(1, 2, 3, 4, 5, 6, 7, 8, 9, 10, 11), false}, {rows(5, 5), false}, {rows(5, 4), false}, {rows(1, 5, 5, 9), false}, {rows(1, 5, 9, 8), false}, {rows(0, 0), false},
		{rows(-1), false}, {rows(-1, 5), false}, {rows(10001), false}, {rows(5, 10001), false},
		{[]api.LowWater{{Below: 5, Percent: 0}, {Below: 6, Percent: 1000}, {Below: 7, Percent: 0}}, true},
		{[]api.LowWater{{Below: 5, Percent: -1}}, false}, {[]api.LowWater{{Below: 5, Percent: 1001}}, false},
		{[]api.LowWater{{Below: 5, Percent: 10}, {Below: 6, Percent: -1}}, false}, {[]api.LowWater{{Below: 5, Percent: 10}, {Below: 6, Percent: 1001}}, false},
	} {
		for i, e := range chartered(api.Charter{Water: c.rows}) {
			if e != cases.Error(c.ok, api.ErrArg) {
				t.Errorf("%v: call %d: %d", c.rows, i, e)
			}
		}
	}
}

// told calls all functions with messages beside which nothing is wrong.
func told(l ...api.FreightMessage) []api.Errno {
	work := append(between(0, 9), value(1, api.FactTons, 5))
	charters := make([]api.Charter, api.MaxCharters)
	before, after := append(l, work...), append(work, l...)
	return []api.Errno{
		facts(before).e, facts(after).e, laytime(api.Charter{}, nil, before).e, laytime(api.Charter{}, nil, after).e,
		bill(api.Charter{}, nil, before).e, bill(api.Charter{}, nil, after).e, balance(charters, nil, before).e, balance(charters, nil, after).e,
	}
}

// P7.2: the numbers of messages.
func TestValidMessages(t *testing.T) {
	fields := []field[api.FreightMessage]{
		{"Number", func(m *api.FreightMessage) *int { return &m.Number }, 0, 999},
		{"Revision", func(m *api.FreightMessage) *int { return &m.Revision }, 0, 99},
		{"Minute", func(m *api.FreightMessage) *int { return &m.Minute }, 0, 100000},
		{"Value", func(m *api.FreightMessage) *int { return &m.Value }, 0, 1000000},
	}
	wantFields(t, api.FreightMessage{Number: 77, Revision: 3, Kind: api.FactWithdrawn}, fields, func(m api.FreightMessage) []api.Errno { return told(m) })
	wantFields(t, api.FreightMessage{Number: 77, Revision: 3, Kind: api.FactLevel}, fields, func(m api.FreightMessage) []api.Errno { return told(m) })
	charter := []field[api.FreightMessage]{{"Charter", func(m *api.FreightMessage) *int { return &m.Charter }, 0, 9}}
	wantFields(t, api.FreightMessage{Number: 77, Kind: api.FactStop}, charter, func(m api.FreightMessage) []api.Errno {
		return []api.Errno{facts([]api.FreightMessage{m, fact(5, stop, 0)}).e, facts([]api.FreightMessage{fact(5, stop, 0), m}).e}
	})
}

// P7.2: the kinds of messages.
func TestValidKinds(t *testing.T) {
	for _, c := range cases.Numbers(1, 7) {
		m := api.FreightMessage{Number: 77, Kind: api.FactKind(c.N)}
		withdrawn := m
		withdrawn.Revision, withdrawn.Kind = 1, api.FactWithdrawn
		for i, e := range told(m, withdrawn) {
			if e != cases.Error(c.OK, api.ErrArg) {
				t.Errorf("kind %d: call %d: %d", c.N, i, e)
			}
		}
	}
	for kind := api.FactNotice; kind <= api.FactWithdrawn; kind++ {
		if got := facts([]api.FreightMessage{fact(1, kind, 5)}); got.e != api.OK {
			t.Errorf("kind %d: %v", kind, got)
		}
	}
	for _, kind := range []api.FactKind{0, 8, -1, 1 << 40} {
		if got := facts([]api.FreightMessage{fact(1, kind, 5)}); !got.same(reported{e: api.ErrArg}) {
			t.Errorf("kind %d: %v", kind, got)
		}
	}
}

// P7.4: free times.
func TestValidFreeTimes(t *testing.T) {
	l := append(between(0, 9), value(1, api.FactTons, 5))
	for _, c := range cases.BoundsWithin(0, 100000) {
		x := api.FreeTime{From: c.B.Low, To: c.B.High}
		for _, times := range [][]api.FreeTime{{x}, {{From: 1, To: 2}, x}, {x, {From: 1, To: 2}}} {
			for i, e := range []api.Errno{laytime(api.Charter{}, times, l).e, bill(api.Charter{}, times, l).e, balance([]api.Charter{{}}, times, l).e, balance(nil, times, nil).e} {
				if e != cases.Error(c.OK, api.ErrArg) {
					t.Errorf("%v: call %d: %d", times, i, e)
				}
			}
		}
	}
}

// P7.7: offers, and the numbers of a hull.
func TestValidOffers(t *testing.T) {
	fields := []field[api.FreightOffer]{
		{"From", func(o *api.FreightOffer) *int { return &o.From }, 0, 100000},
		{"To", func(o *api.FreightOffer) *int { return &o.To }, 0, 100000},
		{"Begin", func(o *api.FreightOffer) *int { return &o.Begin }, 0, 50000},
		{"End", func(o *api.FreightOffer) *int { return &o.End }, 20000, 100000},
		{"Pay", func(o *api.FreightOffer) *int { return &o.Pay }, 0, 1000000000},
	}
	good := offer(0, 0, 0, 0, 0)
	wantFields(t, offer(10, 20, 20000, 50000, 100), fields, func(o api.FreightOffer) []api.Errno {
		return []api.Errno{best([]api.FreightOffer{o}, trip{}).e, best([]api.FreightOffer{o, good}, trip{}).e, best([]api.FreightOffer{good, o}, trip{}).e}
	})
	for _, f := range []field[trip]{
		{"place", func(t *trip) *int { return &t.place }, 0, 100000},
		{"minute", func(t *trip) *int { return &t.minute }, 0, 100000},
		{"slow", func(t *trip) *int { return &t.slow }, 0, 1000},
		{"cost", func(t *trip) *int { return &t.cost }, 0, 100000},
	} {
		for _, c := range cases.Numbers(f.low, f.high) {
			var x trip
			*f.of(&x) = c.N
			for _, l := range [][]api.FreightOffer{nil, {good}} {
				if got := best(l, x); got.e != cases.Error(c.OK, api.ErrRange) {
					t.Errorf("%s %d: %v", f.name, c.N, got)
				}
			}
		}
	}
}
