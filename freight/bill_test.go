package freight_test

import (
	"math/rand"
	"slices"
	"testing"

	"thalweg/api"
)

// carried returns messages about work from the minute 0 to another one, so many tons and a level.
func carried(minutes, tons, level int) []api.FreightMessage {
	return append(between(0, minutes), value(1, api.FactTons, tons), value(2, api.FactLevel, level))
}

// P7.5: a bill, as in the example, and each of its parts.
func TestBill(t *testing.T) {
	c, holiday, l := example()
	short := api.Charter{Laytime: 1000, Demurrage: 700, Despatch: 500}
	table := api.Charter{Rate: 1, Tons: 1000, Water: []api.LowWater{{Below: 0, Percent: 90}, {Below: 100, Percent: 50}, {Below: 150, Percent: 60}, {Below: 200, Percent: 0}, {Below: 10000, Percent: 10}}}
	most := api.Charter{
		Rate: api.MaxRate, Tons: api.MaxTons, Demurrage: api.MaxDayRate, Despatch: api.MaxDayRate, Commission: 100,
		Water: []api.LowWater{{Below: api.MaxLevel, Percent: api.MaxBonus}},
	}
	saving := most
	saving.Laytime = api.MaxFreightMinute
	for _, c := range []struct {
		name string
		c    api.Charter
		free []api.FreeTime
		l    []api.FreightMessage
		want api.FreightBill
	}{
		{"the example", c, holiday, l, api.FreightBill{Freight: 1020000, Bonus: 204000, Demurrage: 70000, Commission: 61200, Total: 1294000}},
		{"as many tons as agreed", api.Charter{Rate: 7, Tons: 50}, nil, carried(0, 50, 0), api.FreightBill{Freight: 350, Total: 350}},
		{"a ton more", api.Charter{Rate: 7, Tons: 50}, nil, carried(0, 51, 0), api.FreightBill{Freight: 357, Total: 357}},
		{"no tons", api.Charter{Rate: 7, Tons: 50}, nil, carried(0, 0, 0), api.FreightBill{Freight: 350, Total: 350}},
		{"nothing at all", api.Charter{}, nil, carried(0, 0, 0), api.FreightBill{}},
		{"a row for a level of less than nothing", table, nil, carried(0, 0, 0), api.FreightBill{Freight: 1000, Bonus: 500, Total: 1500}},
		{"below the second row", table, nil, carried(0, 0, 99), api.FreightBill{Freight: 1000, Bonus: 500, Total: 1500}},
		{"at the second row", table, nil, carried(0, 0, 100), api.FreightBill{Freight: 1000, Bonus: 600, Total: 1600}},
		{"below the third row", table, nil, carried(0, 0, 149), api.FreightBill{Freight: 1000, Bonus: 600, Total: 1600}},
		{"a row of nothing comes first", table, nil, carried(0, 0, 150), api.FreightBill{Freight: 1000, Total: 1000}},
		{"below the last row", table, nil, carried(0, 0, 9999), api.FreightBill{Freight: 1000, Bonus: 100, Total: 1100}},
		{"at the last row", table, nil, carried(0, 0, 10000), api.FreightBill{Freight: 1000, Total: 1000}},
		{"a level that no gauge can show", table, nil, carried(0, 0, 1000000), api.FreightBill{Freight: 1000, Total: 1000}},
		{"no table and no level", api.Charter{Rate: 3}, nil, append(between(0, 0), value(1, api.FactTons, 5)), api.FreightBill{Freight: 15, Total: 15}},
		{"minutes over", short, nil, carried(1036, 0, 0), api.FreightBill{Demurrage: 18, Total: 18}},
		{"minutes saved", short, nil, carried(964, 0, 0), api.FreightBill{Despatch: 13, Total: -13}},
		{"all that there can be, over", most, nil, carried(api.MaxFreightMinute, api.MaxTons, 0), api.FreightBill{Freight: 1e12, Bonus: 1e13, Demurrage: 6944444444, Commission: 11e12, Total: 11e12 + 6944444444}},
		{"all that there can be, saved", saving, nil, carried(0, api.MaxTons, 0), api.FreightBill{Freight: 1e12, Bonus: 1e13, Despatch: 6944444444, Commission: 11e12, Total: 11e12 - 6944444444}},
	} {
		if got := bill(c.c, c.free, c.l); got != (billed{b: c.want}) {
			t.Errorf("%s: %v, want %v", c.name, got, c.want)
		}
	}
}

// P7.5: the nearest integer; of two the greater one.
func TestBillRounds(t *testing.T) {
	for _, c := range []struct {
		freight, percent, commission, over, demurrage int
		bonus, commissions, demurrages                int
	}{
		{1, 49, 0, 1, 719, 0, 0, 0}, {1, 50, 0, 1, 720, 1, 0, 1}, {1, 149, 0, 1, 2159, 1, 0, 1}, {1, 150, 0, 1, 2160, 2, 0, 2},
		{10, 0, 4, 3, 239, 0, 0, 0}, {10, 0, 5, 3, 240, 0, 1, 1}, {10, 0, 14, 2, 1079, 0, 1, 1}, {10, 0, 15, 2, 1080, 0, 2, 2},
		{3, 16, 15, 0, 1000, 0, 0, 0}, {3, 17, 12, 0, 1000, 1, 0, 0}, {3, 17, 13, 0, 1000, 1, 1, 0},
	} {
		x := api.Charter{Rate: c.freight, Tons: 1, Demurrage: c.demurrage, Despatch: c.demurrage, Commission: c.commission, Water: []api.LowWater{{Below: 10, Percent: c.percent}}}
		want := api.FreightBill{Freight: c.freight, Bonus: c.bonus, Demurrage: c.demurrages, Commission: c.commissions, Total: c.freight + c.bonus + c.demurrages}
		if got := bill(x, nil, carried(c.over, 0, 5)); got != (billed{b: want}) {
			t.Errorf("%v: %v, want %v", c, got, want)
		}
		x.Laytime = c.over
		want.Demurrage, want.Despatch, want.Total = 0, c.demurrages, c.freight+c.bonus-c.demurrages
		if got := bill(x, nil, carried(0, 0, 5)); got != (billed{b: want}) {
			t.Errorf("%v, saved: %v, want %v", c, got, want)
		}
	}
}

// P7.5: what a bill needs beside what laytime needs.
func TestBillFacts(t *testing.T) {
	table := api.Charter{Water: []api.LowWater{{Below: 100, Percent: 10}}}
	tons, level := value(1, api.FactTons, 5), value(2, api.FactLevel, 5)
	gone := func(m api.FreightMessage) api.FreightMessage { return revise(m, 1, api.FactWithdrawn, 0) }
	for _, c := range []struct {
		name string
		c    api.Charter
		l    []api.FreightMessage
		want api.Errno
	}{
		{"all", table, append(between(0, 9), tons, level), api.OK},
		{"no tons", table, append(between(0, 9), level), api.ErrNone},
		{"no level", table, append(between(0, 9), tons), api.ErrNone},
		{"neither", table, between(0, 9), api.ErrNone},
		{"no tons, without a table", api.Charter{}, append(between(0, 9), level), api.ErrNone},
		{"no level, without a table", api.Charter{}, append(between(0, 9), tons), api.OK},
		{"a level, without a table", api.Charter{}, append(between(0, 9), tons, level), api.OK},
		{"tons that were withdrawn", table, append(between(0, 9), tons, gone(tons), level), api.ErrNone},
		{"a level that was withdrawn", table, append(between(0, 9), tons, gone(level), level), api.ErrNone},
		{"the order, before what a bill needs", table, between(0, 9, 10), api.ErrState},
		{"two tons, before a level that is missing", table, append(between(0, 9), tons, value(3, api.FactTons, 5)), api.ErrTwice},
		{"no end", table, []api.FreightMessage{fact(9, notice, 0), tons, level}, api.ErrNone},
	} {
		if got := bill(c.c, nil, c.l); got.e != c.want || got.e != api.OK && got != (billed{e: got.e}) {
			t.Errorf("%s: %v, want %d", c.name, got, c.want)
		}
	}
}

// P7.5, P7.8: the same as by fractions, with corrections, in any order, and with any message twice.
func TestBillAgainstFractions(t *testing.T) {
	g := rand.New(rand.NewSource(7))
	seen, bonus, low := map[api.Errno]int{}, 0, 0
	for range 10000 {
		c, times, l := randomCharter(g), randomFree(g, g.Intn(4), 80), randomMessages(g, g.Intn(10), 80)
		want := slowBill(c, times, l)
		for _, same := range [][]api.FreightMessage{l, mixed(g, l), shuffled(g, l)} {
			if len(same) > api.MaxMessages {
				continue
			}
			if got := bill(c, times, same); got != want {
				t.Fatalf("%v, %v, %v: %v, want %v", c, times, same, got, want)
			}
		}
		seen[want.e]++
		if want.b.Bonus > 0 && want.b.Commission > 0 {
			bonus++
		}
		if want.b.Despatch > want.b.Freight {
			low++
		}
	}
	if seen[api.ErrTwice] < 200 || seen[api.ErrNone] < 200 || seen[api.ErrState] < 200 || bonus < 500 || low < 10 {
		t.Error("too few cases:", seen, bonus, low)
	}
}

// parties returns balances that are 0 but for some parties.
func parties(l ...int) []int {
	all := make([]int, api.MaxTraders)
	for i := 0; i < len(l); i += 2 {
		all[l[i]] = l[i+1]
	}
	return all
}

// P7.6: what each party receives less what it pays.
func TestBalance(t *testing.T) {
	c, holiday, l := example()
	named := func(shipper, carrier, broker int) api.Charter {
		return api.Charter{Shipper: shipper, Carrier: carrier, Broker: broker, Rate: 10, Tons: 10, Commission: 7}
	}
	saved := named(1, 2, 3)
	saved.Laytime, saved.Despatch = 1440, 1000
	work := append(between(0, 0), value(1, api.FactTons, 0))
	later := about(2, work)
	for _, x := range []struct {
		name     string
		charters []api.Charter
		free     []api.FreeTime
		l        []api.FreightMessage
		want     []int
	}{
		{"no charters", nil, nil, nil, parties()},
		{"no messages", []api.Charter{c, c}, holiday, nil, parties()},
		{"the example", []api.Charter{c}, holiday, l, parties(1, -1294000, 2, 1294000-61200, 3, 61200)},
		{"the example, as the last of ten", append(slices.Repeat([]api.Charter{named(8, 9, 10)}, 9), c), holiday, about(9, l), parties(1, -1294000, 2, 1294000-61200, 3, 61200)},
		{"two of three charters", []api.Charter{named(1, 2, 3), c, named(3, 1, 4)}, nil, append(later, work...), parties(1, -100+93, 2, 93, 3, 7-100, 4, 7)},
		{"the first and the last party", []api.Charter{named(0, 99, 50)}, nil, work, parties(0, -100, 99, 93, 50, 7)},
		{"the shipper has a tow", []api.Charter{named(1, 1, 3)}, nil, work, parties(1, -7, 3, 7)},
		{"the carrier needs no broker", []api.Charter{named(1, 2, 2)}, nil, work, parties(1, -100, 2, 100)},
		{"the shipper is the broker", []api.Charter{named(1, 2, 1)}, nil, work, parties(1, -93, 2, 93)},
		{"one party", []api.Charter{named(5, 5, 5)}, nil, work, parties()},
		{"there and back", []api.Charter{named(1, 2, 3), named(2, 1, 3)}, nil, append(about(1, work), work...), parties(1, -7, 2, -7, 3, 14)},
		{"more was saved than freight is", []api.Charter{saved}, nil, work, parties(1, 900, 2, -907, 3, 7)},
	} {
		if got := balance(x.charters, x.free, x.l); !got.same(balanced{l: x.want}) {
			t.Errorf("%s: %v, want %v", x.name, got, x.want)
		}
	}
}

// P7.6: charters that are not there, and the first charter that cannot be settled.
func TestBalanceFacts(t *testing.T) {
	c := api.Charter{Rate: 10}
	work := append(between(0, 0), value(1, api.FactTons, 0))
	gone := []api.FreightMessage{fact(1, api.FactWithdrawn, 5)}
	two, missing, wrong := append(slices.Clone(work), value(2, api.FactTons, 0)), work[:2], append(at(int(end), 0, int(notice), 9), work[2])
	both := func(a, b []api.FreightMessage) []api.FreightMessage { return append(about(1, b), a...) }
	for _, x := range []struct {
		name     string
		charters int
		l        []api.FreightMessage
		want     api.Errno
	}{
		{"a charter that is not there", 1, about(1, work), api.ErrNone},
		{"one of two that is not there", 1, both(work, work), api.ErrNone},
		{"no charters", 0, work, api.ErrNone},
		{"a charter that is not there, with what was withdrawn", 1, both(work, gone), api.ErrNone},
		{"a charter that is not there, before all of the others", 1, both(wrong, work), api.ErrNone},
		{"a charter with nothing but what was withdrawn", 2, both(work, gone), api.ErrNone},
		{"something missing in the first one", 2, both(missing, wrong), api.ErrNone},
		{"something twice in the first one", 2, both(two, wrong), api.ErrTwice},
		{"the order in the first one", 2, both(wrong, two), api.ErrState},
		{"something missing in the second one", 2, both(work, missing), api.ErrNone},
		{"something twice in the second one", 2, both(work, two), api.ErrTwice},
		{"the order in the second one", 2, both(work, wrong), api.ErrState},
		{"a notice for one and an end for another", 2, both(work[:1], work[1:]), api.ErrNone},
		{"nothing is wrong", 2, both(work, work), api.OK},
	} {
		got := balance(slices.Repeat([]api.Charter{c}, x.charters), nil, x.l)
		if got.e != x.want || got.e != api.OK && !got.same(balanced{e: got.e}) {
			t.Errorf("%s: %v, want %d", x.name, got, x.want)
		}
	}
}

// fleet returns charters, and messages about many of them.
func fleet(g *rand.Rand) ([]api.Charter, []api.FreightMessage) {
	var charters []api.Charter
	var l []api.FreightMessage
	for i := range 1 + g.Intn(4) {
		charters = append(charters, randomCharter(g))
		switch g.Intn(8) {
		case 0:
		case 1:
			l = append(l, randomMessages(g, i, 80)...)
		default:
			l = append(l, history(g, i, 80)...)
		}
	}
	return charters, l
}

// P7.6, P7.8, P7.9: the same payment by payment, in any order, and with any message twice; the sum is 0, and each charter can be settled alone.
func TestBalanceAgainstPayments(t *testing.T) {
	g := rand.New(rand.NewSource(8))
	seen, several := map[api.Errno]int{}, 0
	for range 5000 {
		charters, l := fleet(g)
		times := randomFree(g, g.Intn(4), 80)
		if len(l) > api.MaxMessages {
			continue
		}
		want := slowBalance(charters, times, l)
		for _, same := range [][]api.FreightMessage{l, mixed(g, l), shuffled(g, l)} {
			if len(same) > api.MaxMessages {
				continue
			}
			if got := balance(charters, times, same); !got.same(want) {
				t.Fatalf("%v, %v, %v: %v, want %v", charters, times, same, got, want)
			}
		}
		seen[want.e]++
		if want.e == api.OK && len(charters) > 1 {
			several++
			wantSettledAlone(t, charters, times, l, want.l)
		}
	}
	if seen[api.ErrTwice] < 100 || seen[api.ErrNone] < 100 || seen[api.ErrState] < 100 || several < 500 {
		t.Error("too few cases:", seen, several)
	}
}

// wantSettledAlone fails unless balances have the sum 0 and are the sums of those of the charters.
func wantSettledAlone(t *testing.T, charters []api.Charter, free []api.FreeTime, l []api.FreightMessage, want []int) {
	t.Helper()
	sum, sums := 0, make([]int, api.MaxTraders)
	for i, c := range charters {
		var own []api.FreightMessage
		for _, m := range l {
			if m.Charter == i {
				own = append(own, m)
			}
		}
		for party, n := range balance([]api.Charter{c}, free, about(0, own)).l {
			sums[party] += n
			sum += n
		}
	}
	if sum != 0 || !slices.Equal(sums, want) {
		t.Fatalf("%v, %v, %v: %v, but alone %v with the sum %d", charters, free, l, want, sums, sum)
	}
}
