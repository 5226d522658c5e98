package freight_test

import (
	"cmp"
	"math/big"
	"math/rand"
	"slices"

	"thalweg/api"
	"thalweg/freight"
)

// matched is what Match returns.
type matched struct {
	price  int
	trades []api.FreightTrade
	e      api.Errno
}

func match(bids, asks []api.FreightBid) matched {
	price, trades, e := freight.Match(bids, asks)
	return matched{price, trades, e}
}

// same reports whether two of them are equal.
func (m matched) same(x matched) bool {
	return m.price == x.price && slices.Equal(m.trades, x.trades) && m.e == x.e
}

// reported is what Facts returns.
type reported struct {
	facts []api.FreightMessage
	e     api.Errno
}

func facts(l []api.FreightMessage) reported {
	x, e := freight.Facts(l)
	return reported{x, e}
}

// same reports whether two of them are equal.
func (r reported) same(x reported) bool {
	return slices.Equal(r.facts, x.facts) && r.e == x.e
}

// counted is what Laytime returns, billed what Bill returns.
type counted struct {
	n api.LayCount
	e api.Errno
}

type billed struct {
	b api.FreightBill
	e api.Errno
}

func laytime(c api.Charter, free []api.FreeTime, l []api.FreightMessage) counted {
	n, e := freight.Laytime(c, free, l)
	return counted{n, e}
}

func bill(c api.Charter, free []api.FreeTime, l []api.FreightMessage) billed {
	b, e := freight.Bill(c, free, l)
	return billed{b, e}
}

// balanced is what Balance returns.
type balanced struct {
	l []int
	e api.Errno
}

func balance(charters []api.Charter, free []api.FreeTime, l []api.FreightMessage) balanced {
	x, e := freight.Balance(charters, free, l)
	return balanced{x, e}
}

// same reports whether two of them are equal.
func (b balanced) same(x balanced) bool { return slices.Equal(b.l, x.l) && b.e == x.e }

// chosen is what Best returns.
type chosen struct {
	offers []int
	gain   int
	e      api.Errno
}

// same reports whether two of them are equal.
func (c chosen) same(x chosen) bool {
	return slices.Equal(c.offers, x.offers) && c.gain == x.gain && c.e == x.e
}

// trip is where a hull is, and how it moves.
type trip struct {
	place, minute, slow, cost int
}

func best(l []api.FreightOffer, t trip) chosen {
	offers, gain, e := freight.Best(l, t.place, t.minute, t.slow, t.cost)
	return chosen{offers, gain, e}
}

// order returns a bid or an ask, trade a trade, offer an offer.
func order(party, tons, price, minute int) api.FreightBid {
	return api.FreightBid{Party: party, Tons: tons, Price: price, Minute: minute}
}

func trade(buyer, seller, tons int) api.FreightTrade {
	return api.FreightTrade{Buyer: buyer, Seller: seller, Tons: tons}
}

func offer(from, to, begin, end, pay int) api.FreightOffer {
	return api.FreightOffer{From: from, To: to, Begin: begin, End: end, Pay: pay}
}

// fact returns a message about the charter 0, in its revision 0.
func fact(number int, kind api.FactKind, minute int) api.FreightMessage {
	return api.FreightMessage{Number: number, Kind: kind, Minute: minute}
}

// value returns a message about tons or a level.
func value(number int, kind api.FactKind, v int) api.FreightMessage {
	return api.FreightMessage{Number: number, Kind: kind, Value: v}
}

// revise returns another revision of a message.
func revise(m api.FreightMessage, revision int, kind api.FactKind, minute int) api.FreightMessage {
	m.Revision, m.Kind, m.Minute = revision, kind, minute
	return m
}

// about returns messages about another charter.
func about(charter int, l []api.FreightMessage) []api.FreightMessage {
	l = slices.Clone(l)
	for i := range l {
		l[i].Charter = charter
	}
	return l
}

// timed returns a charter with such a laytime and notice.
func timed(laytime, notice int) api.Charter { return api.Charter{Laytime: laytime, Notice: notice} }

// free returns a free time.
func free(from, to int) []api.FreeTime { return []api.FreeTime{{From: from, To: to}} }

// The charter, the free time and the messages of the chapter's examples, as new memory.
func example() (api.Charter, []api.FreeTime, []api.FreightMessage) {
	c := api.Charter{
		Shipper: 1, Carrier: 2, Broker: 3, Rate: 850, Tons: 1200, Laytime: 1440, Notice: 360, Demurrage: 144000, Despatch: 72000, Commission: 5,
		Water: []api.LowWater{{Below: 150, Percent: 40}, {Below: 200, Percent: 20}},
	}
	l := []api.FreightMessage{
		fact(1, api.FactNotice, 0), fact(2, api.FactStop, 500), fact(3, api.FactResume, 560), fact(4, api.FactEnd, 3000),
		value(5, api.FactTons, 1000), value(6, api.FactLevel, 180),
	}
	return c, free(1000, 1440), l
}

// The bids and asks of the chapter's examples, as new memory.
func exampleOrders() (bids, asks []api.FreightBid) {
	return []api.FreightBid{order(1, 1000, 900, 0), order(2, 500, 800, 0)}, []api.FreightBid{order(3, 800, 700, 0), order(4, 900, 850, 0)}
}

// The offers of the chapter's examples, as new memory.
func exampleOffers() []api.FreightOffer {
	return []api.FreightOffer{offer(0, 100, 0, 600, 50000), offer(100, 300, 700, 1500, 40000), offer(0, 300, 0, 1400, 80000)}
}

// sums returns demand and supply at a price.
func sums(bids, asks []api.FreightBid, price int) (demand, supply int) {
	for _, b := range bids {
		if b.Price >= price {
			demand += b.Tons
		}
	}
	for _, a := range asks {
		if a.Price <= price {
			supply += a.Tons
		}
	}
	return demand, supply
}

// slowPrice tries all prices, from 0 on: it returns the best one of those that an order has, and its turnover.
func slowPrice(bids, asks []api.FreightBid, most int) (best, turnover int) {
	best, gap := -1, 0
	for p := range most + 1 {
		has := func(b api.FreightBid) bool { return b.Price == p }
		if !slices.ContainsFunc(bids, has) && !slices.ContainsFunc(asks, has) {
			continue
		}
		demand, supply := sums(bids, asks, p)
		n, d := min(demand, supply), max(demand-supply, supply-demand)
		if best < 0 || n > turnover || n == turnover && d < gap {
			best, turnover, gap = p, n, d
		}
	}
	return best, turnover
}

// queue returns the party of each ton that trades, in order: sign is -1 if the greatest price is first, and 1 if the least one is.
func queue(orders []api.FreightBid, price, sign int) []int {
	var left []api.FreightBid
	for _, b := range orders {
		if sign*b.Price <= sign*price {
			left = append(left, b)
		}
	}
	var parties []int
	for len(left) > 0 {
		first := 0
		for i, b := range left {
			if slices.Compare([]int{sign * b.Price, b.Minute, b.Party}, []int{sign * left[first].Price, left[first].Minute, left[first].Party}) < 0 {
				first = i
			}
		}
		parties = append(parties, slices.Repeat([]int{left[first].Party}, left[first].Tons)...)
		left = slices.Delete(left, first, first+1)
	}
	return parties
}

// slowMatch clears the bourse ton by ton, for prices up to a number.
func slowMatch(bids, asks []api.FreightBid, most int) matched {
	price, turnover := slowPrice(bids, asks, most)
	if turnover == 0 {
		return matched{e: api.ErrNone}
	}
	m := matched{price: price}
	buyers, sellers := queue(bids, price, -1), queue(asks, price, 1)
	for i := range turnover {
		last := len(m.trades) - 1
		if last >= 0 && m.trades[last].Buyer == buyers[i] && m.trades[last].Seller == sellers[i] {
			m.trades[last].Tons++
		} else {
			m.trades = append(m.trades, trade(buyers[i], sellers[i], 1))
		}
	}
	return m
}

// slowFacts returns the facts of messages that have no error: it takes each charter, minute and number in turn.
func slowFacts(l []api.FreightMessage) []api.FreightMessage {
	var found []api.FreightMessage
	for i, m := range l {
		counts := m.Kind != api.FactWithdrawn && slices.Index(l, m) == i
		for _, x := range l {
			if x.Charter == m.Charter && x.Number == m.Number && x.Revision > m.Revision {
				counts = false
			}
		}
		if counts {
			found = append(found, m)
		}
	}
	slices.SortFunc(found, func(a, b api.FreightMessage) int {
		return slices.Compare([]int{a.Charter, a.Minute, a.Number}, []int{b.Charter, b.Minute, b.Number})
	})
	return found
}

// slowState returns the error of the facts of a charter: it follows what may come next.
func slowState(facts []api.FreightMessage) api.Errno {
	kinds := map[api.FactKind]int{}
	state, possible := "before the notice", true
	for _, m := range facts {
		kinds[m.Kind]++
		switch {
		case m.Kind == api.FactTons || m.Kind == api.FactLevel:
		case state == "before the notice" && m.Kind == api.FactNotice, state == "at rest" && m.Kind == api.FactResume:
			state = "at work"
		case state == "at work" && m.Kind == api.FactStop:
			state = "at rest"
		case (state == "at work" || state == "at rest") && m.Kind == api.FactEnd:
			state = "after the end"
		default:
			possible = false
		}
	}
	switch {
	case kinds[api.FactNotice] > 1 || kinds[api.FactEnd] > 1 || kinds[api.FactTons] > 1 || kinds[api.FactLevel] > 1:
		return api.ErrTwice
	case kinds[api.FactNotice] == 0 || kinds[api.FactEnd] == 0:
		return api.ErrNone
	case !possible:
		return api.ErrState
	}
	return api.OK
}

// factOf returns the first fact of a kind, and whether there is one.
func factOf(facts []api.FreightMessage, kind api.FactKind) (api.FreightMessage, bool) {
	i := slices.IndexFunc(facts, func(m api.FreightMessage) bool { return m.Kind == kind })
	if i < 0 {
		return api.FreightMessage{}, false
	}
	return facts[i], true
}

// slowExcepted reports whether a minute is excepted: work stops since the last FactStop, unless there is a FactResume since then.
func slowExcepted(free []api.FreeTime, facts []api.FreightMessage, minute int) bool {
	for _, x := range free {
		if x.From <= minute && minute < x.To {
			return true
		}
	}
	stopped := false
	for _, m := range facts {
		if m.Minute <= minute && (m.Kind == api.FactStop || m.Kind == api.FactResume) {
			stopped = m.Kind == api.FactStop
		}
	}
	return stopped
}

// slowLaytime counts laytime minute by minute; charter, free times and messages are valid.
func slowLaytime(c api.Charter, free []api.FreeTime, l []api.FreightMessage) counted {
	facts := slowFacts(l)
	if e := slowState(facts); e != api.OK {
		return counted{e: e}
	}
	notice, _ := factOf(facts, api.FactNotice)
	end, _ := factOf(facts, api.FactEnd)
	n := api.LayCount{Begin: notice.Minute + c.Notice}
	for minute := n.Begin; minute < end.Minute; minute++ {
		if n.Used == c.Laytime {
			n.Over++
		} else if !slowExcepted(free, facts, minute) {
			n.Used++
		}
	}
	if n.Over == 0 {
		n.Saved = c.Laytime - n.Used
	}
	return counted{n: n}
}

// share returns factors multiplied, divided by a number and rounded: the greatest integer that is at most a half above that.
func share(by int64, factors ...int) int {
	x := big.NewRat(1, by)
	for _, f := range factors {
		x.Mul(x, big.NewRat(int64(f), 1))
	}
	x.Add(x, big.NewRat(1, 2))
	return int(new(big.Int).Div(x.Num(), x.Denom()).Int64())
}

// slowBill settles a charter; charter, free times and messages are valid.
func slowBill(c api.Charter, free []api.FreeTime, l []api.FreightMessage) billed {
	lay := slowLaytime(c, free, l)
	if lay.e != api.OK {
		return billed{e: lay.e}
	}
	carried, ok := factOf(slowFacts(l), api.FactTons)
	level, known := factOf(slowFacts(l), api.FactLevel)
	if !ok || !known && len(c.Water) > 0 {
		return billed{e: api.ErrNone}
	}
	percent := 0
	for _, row := range slices.Backward(c.Water) {
		if level.Value < row.Below {
			percent = row.Percent
		}
	}
	b := api.FreightBill{Freight: c.Rate * c.Tons}
	if carried.Value > c.Tons {
		b.Freight = c.Rate * carried.Value
	}
	b.Bonus = share(100, b.Freight, percent)
	b.Demurrage = share(1440, lay.n.Over, c.Demurrage)
	b.Despatch = share(1440, lay.n.Saved, c.Despatch)
	b.Commission = share(100, b.Freight+b.Bonus, c.Commission)
	b.Total = b.Freight + b.Bonus + b.Demurrage - b.Despatch
	return billed{b: b}
}

// slowBalance settles charters; these, free times and messages are valid.
func slowBalance(charters []api.Charter, free []api.FreeTime, l []api.FreightMessage) balanced {
	received, paid := make([]int, api.MaxTraders), make([]int, api.MaxTraders)
	for i, c := range charters {
		var own []api.FreightMessage
		for _, m := range l {
			if m.Charter == i {
				own = append(own, m)
			}
		}
		if own == nil {
			continue
		}
		x := slowBill(c, free, own)
		if x.e != api.OK {
			return balanced{e: x.e}
		}
		paid[c.Shipper] += x.b.Total
		received[c.Carrier] += x.b.Total
		paid[c.Carrier] += x.b.Commission
		received[c.Broker] += x.b.Commission
	}
	for i := range received {
		received[i] -= paid[i]
	}
	return balanced{l: received}
}

// carry returns what offers gain, in this order, and whether they can be carried one after another.
func carry(l []api.FreightOffer, offers []int, t trip) (gain int, can bool) {
	for i, x := range offers {
		o := l[x]
		if i > 0 && slices.Compare([]int{l[offers[i-1]].Begin, offers[i-1]}, []int{o.Begin, x}) > 0 {
			return 0, false
		}
		way := o.From - t.place
		if way < 0 {
			way = -way
		}
		if t.minute+way*t.slow > o.Begin {
			return 0, false
		}
		gain += o.Pay - way*t.cost
		t.place, t.minute = o.To, o.End
	}
	return gain, true
}

// slowBest tries all sets of offers.
func slowBest(l []api.FreightOffer, t trip) chosen {
	var best chosen
	for set := range 1 << len(l) {
		var offers []int
		for i := range l {
			if set>>i&1 == 1 {
				offers = append(offers, i)
			}
		}
		slices.SortFunc(offers, func(a, b int) int {
			return cmp.Or(cmp.Compare(l[a].Begin, l[b].Begin), cmp.Compare(a, b))
		})
		gain, can := carry(l, offers, t)
		better := cmp.Or(cmp.Compare(gain, best.gain), cmp.Compare(len(best.offers), len(offers)), slices.Compare(best.offers, offers))
		if can && better > 0 {
			best = chosen{offers: offers, gain: gain}
		}
	}
	return best
}

// randomOrders returns orders of different parties, with tons, prices and minutes up to some numbers.
func randomOrders(g *rand.Rand, n, tons, price int) []api.FreightBid {
	var l []api.FreightBid
	for _, party := range g.Perm(api.MaxTraders)[:n] {
		l = append(l, order(party, 1+g.Intn(tons), g.Intn(price+1), g.Intn(3)))
	}
	return l
}

// randomFree returns valid free times up to a minute.
func randomFree(g *rand.Rand, n, most int) []api.FreeTime {
	var l []api.FreeTime
	for range n {
		a, b := g.Intn(most+1), g.Intn(most+1)
		l = append(l, api.FreeTime{From: min(a, b), To: max(a, b)})
	}
	return l
}

// randomCharter returns a valid charter with small times.
func randomCharter(g *rand.Rand) api.Charter {
	c := api.Charter{
		Shipper: g.Intn(6), Carrier: g.Intn(6), Broker: g.Intn(6), Rate: g.Intn(2000), Tons: g.Intn(30), Laytime: g.Intn(60), Notice: g.Intn(12),
		Demurrage: g.Intn(5000), Despatch: g.Intn(5000), Commission: g.Intn(101),
	}
	below := -1
	for range g.Intn(4) {
		below += 1 + g.Intn(100)
		c.Water = append(c.Water, api.LowWater{Below: below, Percent: g.Intn(api.MaxBonus + 1)})
	}
	return c
}

// history returns what may happen under a charter, up to a minute, without corrections: it has no error.
func history(g *rand.Rand, charter, most int) []api.FreightMessage {
	stops := g.Intn(4) * 2
	if g.Intn(3) == 0 {
		stops++
	}
	var minutes []int
	for range stops + 2 {
		minutes = append(minutes, g.Intn(most+1))
	}
	slices.Sort(minutes)
	number := g.Intn(9)
	var l []api.FreightMessage
	for i, minute := range minutes {
		kind := api.FactStop + api.FactKind((i+1)%2)
		if i == 0 {
			kind = api.FactNotice
		} else if i == stops+1 {
			kind = api.FactEnd
		}
		l = append(l, fact(number, kind, minute))
		number += 1 + g.Intn(3)
	}
	for _, kind := range []api.FactKind{api.FactTons, api.FactLevel} {
		m := value(number, kind, g.Intn(60)*g.Intn(6))
		m.Minute = g.Intn(most + 1)
		number += 1 + g.Intn(3)
		l = append(l, m)
	}
	return about(charter, l)
}

// corrected returns messages that report the same facts by corrections, by what was withdrawn and by messages that come twice, in another order.
func corrected(g *rand.Rand, l []api.FreightMessage, most int) []api.FreightMessage {
	var all []api.FreightMessage
	for _, m := range l {
		m.Revision = g.Intn(4)
		all = append(all, m)
		for i := range m.Revision {
			if g.Intn(2) == 0 {
				all = append(all, revise(m, i, 1+api.FactKind(g.Intn(7)), g.Intn(most+1)))
			}
		}
	}
	for i := range g.Intn(3) {
		m := fact(900+i, 1+api.FactKind(g.Intn(7)), g.Intn(most+1))
		m.Charter = l[0].Charter
		all = append(all, m, revise(m, 1+g.Intn(5), api.FactWithdrawn, g.Intn(most+1)))
	}
	return shuffled(g, all)
}

// shuffled returns a list in another order, with some elements twice.
func shuffled[T any](g *rand.Rand, l []T) []T {
	l = slices.Clone(l)
	for _, x := range l {
		if g.Intn(4) == 0 {
			l = append(l, x)
		}
	}
	return mixed(g, l)
}

// mixed returns a list in another order.
func mixed[T any](g *rand.Rand, l []T) []T {
	l = slices.Clone(l)
	g.Shuffle(len(l), func(i, j int) { l[i], l[j] = l[j], l[i] })
	return l
}

// randomMessages returns valid messages about a charter, of which many report what cannot be.
func randomMessages(g *rand.Rand, charter, most int) []api.FreightMessage {
	l := history(g, charter, most)
	switch g.Intn(6) {
	case 0:
		i := g.Intn(len(l))
		l = slices.Delete(l, i, i+1)
	case 1:
		l[g.Intn(len(l))].Minute = g.Intn(most + 1)
	case 2:
		l[g.Intn(len(l))].Kind = 1 + api.FactKind(g.Intn(7))
	case 3:
		m := l[g.Intn(len(l))]
		m.Number = 800
		l = append(l, m)
	}
	return corrected(g, l, most)
}

// randomOffers returns valid offers, with places and minutes up to some numbers.
func randomOffers(g *rand.Rand, n, place, minute, pay int) []api.FreightOffer {
	var l []api.FreightOffer
	for range n {
		begin := g.Intn(minute + 1)
		end := min(minute, begin+g.Intn(minute/3+1)*g.Intn(2))
		l = append(l, offer(g.Intn(place+1), g.Intn(place+1), begin, end, g.Intn(pay+1)))
	}
	return l
}

// randomTrip returns a hull for such offers.
func randomTrip(g *rand.Rand, place, minute int) trip {
	return trip{g.Intn(place + 1), g.Intn(minute/2 + 1), g.Intn(4), g.Intn(4)}
}
