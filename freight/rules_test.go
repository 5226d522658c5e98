package freight_test

import (
	"math/rand"
	"reflect"
	"slices"
	"testing"

	"thalweg/api"
	"thalweg/cases"
	"thalweg/freight"
)

// args are the arguments of all functions.
type args struct {
	bids, asks []api.FreightBid
	c          api.Charter
	charters   []api.Charter
	free       []api.FreeTime
	l          []api.FreightMessage
	offers     []api.FreightOffer
	t          trip
}

// goodArgs have no error.
func goodArgs() args {
	bids, asks := exampleOrders()
	c, free, l := example()
	return args{bids, asks, c, []api.Charter{c, c}, free, l, exampleOffers(), trip{0, 0, 5, 100}}
}

// reply is the error of a call, and whether all its other results are zero values.
type reply struct {
	name  string
	e     api.Errno
	empty bool
}

// replies calls all functions.
func replies(a args) []reply {
	m, f, n, b := match(a.bids, a.asks), facts(a.l), laytime(a.c, a.free, a.l), bill(a.c, a.free, a.l)
	all, o := balance(a.charters, a.free, a.l), best(a.offers, a.t)
	return []reply{
		{"Match", m.e, m.same(matched{e: m.e})}, {"Facts", f.e, f.same(reported{e: f.e})}, {"CheckCharter", freight.CheckCharter(a.c), true},
		{"Laytime", n.e, n == counted{e: n.e}}, {"Bill", b.e, b == billed{e: b.e}}, {"Balance", all.e, all.same(balanced{e: all.e})},
		{"Best", o.e, o.same(chosen{e: o.e})},
	}
}

// errorsOf returns the errors of replies.
func errorsOf(l []reply) []api.Errno {
	var errors []api.Errno
	for _, x := range l {
		errors = append(errors, x.e)
	}
	return errors
}

// wantNothingBesideErrors fails if a function returns a result beside an error.
func wantNothingBesideErrors(t *testing.T, l []reply) {
	t.Helper()
	for _, x := range l {
		if x.e != api.OK && !x.empty {
			t.Errorf("a result beside an error: %v", x)
		}
	}
}

// R1: the errors of Match and Best, in the order in which they are listed.
func TestOrderOfErrorsOfTrade(t *testing.T) {
	bids, asks := exampleOrders()
	type orders = []api.FreightBid
	bad, twice, low := orders{order(1, 0, 5, 0), order(1, 0, 5, 0)}, orders{order(1, 5, 5, 0), order(1, 5, 5, 0)}, orders{order(1, 5, 5, 0)}
	long := slices.Repeat(bad, 16)
	full := slices.Repeat(orders{order(1, 5, 900, 0)}, api.MaxBids)
	for _, c := range []struct {
		name       string
		bids, asks orders
		want       api.Errno
	}{
		{"too many bids, before all else", long, bad, api.ErrLong},
		{"too many asks, before all else", bad, long, api.ErrLong},
		{"one bid too many", append(full, full[0]), asks, api.ErrLong},
		{"one ask too many", bids, append(full, full[0]), api.ErrLong},
		{"as many as there can be, of one party", full, asks, api.ErrTwice},
		{"bids that are not valid, before those that come twice", bad, twice, api.ErrArg},
		{"asks that are not valid, before bids that come twice", twice, bad, api.ErrArg},
		{"two bids of a party, before the prices", twice, asks, api.ErrTwice},
		{"two asks of a party, before the prices", low, twice, api.ErrTwice},
		{"two asks of a party", bids, append(asks, asks[0]), api.ErrTwice},
		{"two bids of a party, without asks", twice, nil, api.ErrTwice},
		{"two asks of a party, without bids", nil, twice, api.ErrTwice},
		{"nothing is traded", low, asks, api.ErrNone},
		{"nothing is wrong", bids, asks, api.OK},
	} {
		if got := match(c.bids, c.asks); got.e != c.want || got.e != api.OK && !got.same(matched{e: got.e}) {
			t.Errorf("%s: %v, want %d", c.name, got, c.want)
		}
	}
	wrong := offer(0, 0, 5, 4, 0)
	for _, c := range []struct {
		name string
		l    []api.FreightOffer
		t    trip
		want api.Errno
	}{
		{"too many offers, before all else", slices.Repeat([]api.FreightOffer{wrong}, 13), trip{place: -1}, api.ErrLong},
		{"an offer that is not valid, before the hull", []api.FreightOffer{offer(0, 0, 0, 0, 5), wrong}, trip{cost: -1}, api.ErrArg},
		{"as many offers as there can be, of which none is valid", slices.Repeat([]api.FreightOffer{wrong}, 12), trip{}, api.ErrArg},
		{"the hull", exampleOffers(), trip{slow: -1}, api.ErrRange},
		{"as many offers as there can be", slices.Repeat(exampleOffers(), 4), trip{}, api.OK},
	} {
		if got := best(c.l, c.t); got.e != c.want || got.e != api.OK && !got.same(chosen{e: got.e}) {
			t.Errorf("%s: %v, want %d", c.name, got, c.want)
		}
	}
}

// R1: the errors of charters, free times and messages, in the order in which they are listed.
func TestOrderOfErrorsOfCharters(t *testing.T) {
	ok := api.Charter{Rate: 5}
	bad := api.Charter{Rate: -1}
	bads, many := []api.Charter{ok, bad}, slices.Repeat([]api.Charter{bad}, 11)
	wrong, long := []api.FreeTime{{From: 1, To: 2}, {From: 2, To: 1}}, slices.Repeat([]api.FreeTime{{From: 2, To: 1}}, 31)
	work := append(between(0, 9), value(1, api.FactTons, 5))
	broken := fact(77, 0, 0)
	differ := []api.FreightMessage{fact(78, stop, 0), fact(78, stop, 1)}
	two, none, turned := append(slices.Clone(work), work[0]), work[:1], append(at(int(end), 0, int(notice), 0), work[2])
	two[3].Number = 99
	other := about(1, work)
	mixedUp := append(slices.Clone(two), other...)
	join := func(l ...[]api.FreightMessage) []api.FreightMessage { return slices.Concat(l...) }
	const isLong, arg, form, twice, missing, state = api.ErrLong, api.ErrArg, api.ErrForm, api.ErrTwice, api.ErrNone, api.ErrState
	for _, c := range []struct {
		name                          string
		c                             api.Charter
		charters                      []api.Charter
		free                          []api.FreeTime
		l                             []api.FreightMessage
		facts, laytime, bill, balance api.Errno
	}{
		{"nothing is wrong", ok, []api.Charter{ok}, nil, work, 0, 0, 0, 0},
		{"too many charters, or one that is not valid, before all else", bad, many, long, join(work, slices.Repeat(differ, 50)), isLong, arg, arg, isLong},
		{"a charter that is not valid, before too many free times", bad, bads, long, differ, twice, arg, arg, arg},
		{"a charter that is not valid, before a free time", bad, bads, wrong, append(work, broken), arg, arg, arg, arg},
		{"a charter that is not valid, before messages", bad, bads, nil, nil, 0, arg, arg, arg},
		{"too many free times, before one that is not valid", ok, []api.Charter{ok}, long, append(differ, broken), arg, isLong, isLong, isLong},
		{"a free time that is not valid, before too many messages", ok, []api.Charter{ok}, wrong, slices.Repeat(differ, 51), isLong, arg, arg, arg},
		{"a free time that is not valid, before messages that differ", ok, []api.Charter{ok}, wrong, differ, twice, arg, arg, arg},
		{"too many messages, before one that is not valid", ok, []api.Charter{ok}, nil, append(slices.Repeat(differ, 50), broken), isLong, isLong, isLong, isLong},
		{"a message that is not valid, before those that differ", ok, nil, nil, append(differ, broken), arg, arg, arg, arg},
		{"messages that differ, before those of another charter", ok, nil, nil, join(other, differ), twice, twice, twice, twice},
		{"messages of two charters, before what is there twice", ok, []api.Charter{ok}, nil, mixedUp, 0, form, form, missing},
		{"messages of two charters, before what is missing", ok, []api.Charter{ok, ok}, nil, join(none, other), 0, form, form, missing},
		{"messages of two charters, one of which was withdrawn", ok, []api.Charter{ok, ok}, nil, join(work, about(1, []api.FreightMessage{fact(1, api.FactWithdrawn, 0)})), 0, form, form, missing},
		{"messages of two charters, one of which was corrected", ok, []api.Charter{ok, ok}, nil, join(work, other), 0, form, form, 0},
		{"something twice, before what is missing", ok, []api.Charter{ok}, nil, append(slices.Clone(two[2:]), value(55, api.FactTons, 5)), 0, twice, twice, twice},
		{"something twice, before the order", ok, []api.Charter{ok}, nil, two, 0, twice, twice, twice},
		{"something missing, before the order", ok, []api.Charter{ok}, nil, turned[:1], 0, missing, missing, missing},
		{"the order, before tons", ok, []api.Charter{ok}, nil, turned[:2], 0, state, state, state},
		{"no tons", ok, []api.Charter{ok}, nil, work[:2], 0, 0, missing, missing},
		{"no messages", ok, []api.Charter{ok}, nil, nil, 0, missing, missing, 0},
		{"the second charter is not valid", ok, bads, nil, work, 0, 0, 0, arg},
	} {
		l := replies(args{c: c.c, charters: c.charters, free: c.free, l: c.l})
		got, want := errorsOf(l)[1:6], []api.Errno{c.facts, freight.CheckCharter(c.c), c.laytime, c.bill, c.balance}
		if !slices.Equal(got, want) {
			t.Errorf("%s: %v, want %v", c.name, got, want)
		}
		wantNothingBesideErrors(t, l)
	}
}

// P1: all functions return, whatever their arguments are.
func TestExtremes(t *testing.T) {
	for _, a := range cases.Extremes() {
		for _, b := range cases.Extremes() {
			wild := api.Charter{Shipper: a, Carrier: b, Rate: a, Tons: b, Laytime: a, Notice: b, Demurrage: a, Despatch: b, Commission: a, Water: []api.LowWater{{Below: a, Percent: b}, {Below: b, Percent: a}}}
			message := api.FreightMessage{Charter: a, Number: b, Revision: a, Kind: api.FactKind(b), Minute: a, Value: b}
			x := goodArgs()
			y := args{
				[]api.FreightBid{order(a, b, a, b), order(b, a, b, a)}, []api.FreightBid{order(b, a, b, a)}, wild, []api.Charter{wild, x.c}, free(a, b), []api.FreightMessage{message},
				[]api.FreightOffer{offer(a, b, a, b, a), offer(b, a, b, a, b)}, trip{a, b, a, b},
			}
			wantNothingBesideErrors(t, replies(y))
			z := x
			z.free, z.asks, z.t = y.free, y.asks, y.t
			z.charters = append(z.charters, wild)
			wantNothingBesideErrors(t, replies(z))
			z = y
			z.c, z.charters, z.offers, z.free = x.c, x.charters, x.offers, x.free
			z.l = append(z.l, x.l...)
			wantNothingBesideErrors(t, replies(z))
			z.l, z.t = append(x.l, api.FreightMessage{Number: 50, Kind: api.FactWithdrawn, Minute: a, Value: b}), trip{a, b, 5, 100}
			wantNothingBesideErrors(t, replies(z))
		}
	}
	wantNothingBesideErrors(t, replies(args{}))
}

// P1, R2: with arguments that are valid, or not, no result comes with an error.
func TestNothingBesideErrors(t *testing.T) {
	g := rand.New(rand.NewSource(11))
	seen := map[api.Errno]bool{}
	for range 5000 {
		charters, l := fleet(g)
		l = l[:min(len(l), api.MaxMessages)]
		a := args{randomOrders(g, g.Intn(4), 5, 5), randomOrders(g, g.Intn(4), 5, 5), charters[0], charters, randomFree(g, 2, 80), l, randomOffers(g, 4, 9, 90, 90), randomTrip(g, 9, 90)}
		switch g.Intn(12) {
		case 0:
			a.c.Rate = -1
		case 1:
			a.free = slices.Repeat(a.free, 16)
		case 2:
			a.t.slow = 9999
		case 3:
			a.bids = append(a.bids, order(5, 5, 5, 5), order(5, 5, 5, 5))
		case 4:
			a.l = append(a.l, fact(990, end, 5), fact(990, end, 6))
		case 5:
			a.charters = a.charters[:len(charters)-1]
		}
		replied := replies(a)
		wantNothingBesideErrors(t, replied)
		for _, x := range replied {
			seen[x.e] = true
		}
	}
	for _, e := range []api.Errno{api.OK, api.ErrArg, api.ErrRange, api.ErrForm, api.ErrLong, api.ErrTwice, api.ErrNone, api.ErrState} {
		if !seen[e] {
			t.Error("no error", e)
		}
	}
}

// R3: nil and empty lists are the same.
func TestNilAndEmpty(t *testing.T) {
	want := []api.Errno{api.ErrNone, api.OK, api.OK, api.ErrNone, api.ErrNone, api.OK, api.OK}
	empty := args{
		[]api.FreightBid{}, []api.FreightBid{}, api.Charter{Water: []api.LowWater{}}, []api.Charter{}, []api.FreeTime{}, []api.FreightMessage{}, []api.FreightOffer{}, trip{},
	}
	for _, a := range []args{{}, empty} {
		if got := errorsOf(replies(a)); !slices.Equal(got, want) {
			t.Error(got)
		}
		if got := facts(a.l); !got.same(reported{}) {
			t.Error("facts:", got)
		}
		if got := balance(a.charters, a.free, a.l); !got.same(balanced{l: parties()}) {
			t.Error("balance:", got)
		}
		if got := best(a.offers, a.t); !got.same(chosen{}) {
			t.Error("offers:", got)
		}
		l := append(between(0, 9), value(1, api.FactTons, 5))
		if got := bill(a.c, a.free, l); got != (billed{}) {
			t.Error("no table and no free times:", got)
		}
	}
}

// cloneArgs returns arguments as new memory.
func cloneArgs(a args) args {
	cloned := args{slices.Clone(a.bids), slices.Clone(a.asks), cloneCharter(a.c), nil, slices.Clone(a.free), slices.Clone(a.l), slices.Clone(a.offers), a.t}
	for _, c := range a.charters {
		cloned.charters = append(cloned.charters, cloneCharter(c))
	}
	return cloned
}

// cloneCharter returns a charter as new memory.
func cloneCharter(c api.Charter) api.Charter {
	c.Water = slices.Clone(c.Water)
	return c
}

// R4: no argument is changed, also not behind the end of a list.
func TestArgumentsAreKept(t *testing.T) {
	whole := goodArgs()
	slices.Reverse(whole.l)
	whole.bids = append(whole.bids, order(9, 100, 950, 0), order(8, 100, 100, 0))
	whole.asks = append(whole.asks, order(9, 100, 100, 0), order(8, 100, 950, 0))
	whole.free = append(whole.free, api.FreeTime{From: 10, To: 20}, api.FreeTime{From: 5, To: 6})
	whole.l = append(whole.l, revise(whole.l[0], 1, api.FactLevel, 9), fact(0, api.FactWithdrawn, 0))
	whole.offers = append(whole.offers, offer(0, 0, 5, 9, 1000), offer(0, 0, 0, 0, 1000))
	same := cloneArgs(whole)
	for _, x := range replies(whole) {
		if x.e != api.OK {
			t.Error(x)
		}
	}
	part := whole
	part.bids, part.asks, part.free = whole.bids[:1], whole.asks[:1], whole.free[:1]
	part.l, part.offers, part.charters = whole.l[:6], whole.offers[:2], whole.charters[:1]
	for _, x := range replies(part) {
		if x.e != api.OK {
			t.Error("a part:", x)
		}
	}
	if !reflect.DeepEqual(whole, same) {
		t.Error("changed:", whole)
	}
}

// R4: what is written into a result is not seen in an argument, nor in another result.
func TestResultsAreNew(t *testing.T) {
	a := goodArgs()
	results := func() []any {
		return []any{match(a.bids, a.asks), facts(a.l), balance(a.charters, a.free, a.l), best(a.offers, a.t)}
	}
	before := results()
	m, f, b, o := match(a.bids, a.asks), facts(a.l), balance(a.charters, a.free, a.l), best(a.offers, a.t)
	cases.Spoil(m.trades, trade(9, 9, 9))
	cases.Spoil(f.facts, fact(9, end, 9))
	cases.Spoil(b.l, 9)
	cases.Spoil(o.offers, 9)
	if !reflect.DeepEqual(a, goodArgs()) {
		t.Error("changed:", a)
	}
	if after := results(); !reflect.DeepEqual(before, after) {
		t.Error("again:", after, before)
	}
}
