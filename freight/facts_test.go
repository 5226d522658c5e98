package freight_test

import (
	"math/rand"
	"slices"
	"testing"

	"thalweg/api"
)

// P7.2: the facts, as in the example, with corrections, with what was withdrawn, and their order.
func TestFacts(t *testing.T) {
	stop := fact(5, api.FactStop, 500)
	later := revise(stop, 1, api.FactStop, 520)
	gone := revise(stop, 2, api.FactWithdrawn, 0)
	back := revise(stop, 3, api.FactStop, 480)
	end := fact(2, api.FactEnd, 900)
	other := about(1, []api.FreightMessage{fact(5, api.FactNotice, 10)})[0]
	type list = []api.FreightMessage
	for _, c := range []struct {
		name    string
		l, want list
	}{
		{"nothing", nil, nil},
		{"the first revision", list{stop}, list{stop}},
		{"the example", list{stop, later}, list{later}},
		{"the example, in another order", list{later, stop}, list{later}},
		{"withdrawn", list{stop, later, gone}, nil},
		{"withdrawn before what it withdraws", list{gone, later}, nil},
		{"withdrawn in an earlier revision", list{gone, back, stop}, list{back}},
		{"nothing but withdrawn", list{gone, end}, list{end}},
		{"twice", list{stop, stop}, list{stop}},
		{"all of them twice", list{stop, end, later, end, stop, later}, list{later, end}},
		{"a later revision that is equal", list{revise(end, 7, api.FactEnd, 900), end}, list{revise(end, 7, api.FactEnd, 900)}},
		{"the same number of another charter", list{other, later, stop}, list{later, other}},
		{"another charter withdraws nothing", list{other, stop, about(1, list{gone})[0]}, list{stop}},
		{"by minutes", list{fact(1, api.FactEnd, 30), fact(2, api.FactStop, 20), fact(3, api.FactNotice, 10)}, list{fact(3, api.FactNotice, 10), fact(2, api.FactStop, 20), fact(1, api.FactEnd, 30)}},
		{"of one minute by numbers", list{fact(9, api.FactNotice, 5), fact(8, api.FactEnd, 5), fact(10, api.FactStop, 5)}, list{fact(8, api.FactEnd, 5), fact(9, api.FactNotice, 5), fact(10, api.FactStop, 5)}},
		{"by charters before minutes", list{other, end}, list{end, other}},
		{"values are facts, too", list{value(3, api.FactLevel, 1000000), value(2, api.FactTons, 0)}, list{value(2, api.FactTons, 0), value(3, api.FactLevel, 1000000)}},
		{"the greatest numbers", list{{Charter: 9, Number: 999, Revision: 99, Kind: api.FactTons, Minute: 100000, Value: 1000000}, {Charter: 9, Number: 999, Revision: 98, Kind: api.FactWithdrawn, Minute: 100000, Value: 1000000}}, list{{Charter: 9, Number: 999, Revision: 99, Kind: api.FactTons, Minute: 100000, Value: 1000000}}},
	} {
		if got := facts(c.l); !got.same(reported{c.want, api.OK}) {
			t.Errorf("%s: %v, want %v", c.name, got, c.want)
		}
	}
}

// P7.2: two messages that should be one must be equal, also if they do not count.
func TestFactsThatDiffer(t *testing.T) {
	m := api.FreightMessage{Charter: 2, Number: 5, Revision: 1, Kind: api.FactStop, Minute: 500, Value: 7}
	last := revise(m, 9, api.FactStop, 500)
	for i, change := range []func(*api.FreightMessage){
		func(m *api.FreightMessage) { m.Kind = api.FactResume },
		func(m *api.FreightMessage) { m.Kind = api.FactWithdrawn },
		func(m *api.FreightMessage) { m.Minute++ },
		func(m *api.FreightMessage) { m.Value = 0 },
	} {
		x := m
		change(&x)
		for _, l := range [][]api.FreightMessage{{m, x}, {x, m}, {last, m, x}, {x, last, m}, {m, m, x}, {x, m, m}} {
			if got := facts(l); !got.same(reported{e: api.ErrTwice}) {
				t.Errorf("%d: %v: %v", i, l, got)
			}
		}
	}
	for i, change := range []func(*api.FreightMessage){
		func(m *api.FreightMessage) { m.Charter-- },
		func(m *api.FreightMessage) { m.Number++ },
		func(m *api.FreightMessage) { m.Revision++ },
	} {
		x := m
		x.Kind = api.FactEnd
		change(&x)
		if got := facts([]api.FreightMessage{m, x}); got.e != api.OK {
			t.Errorf("%d: %v", i, got)
		}
	}
}

// P7.2: at most so many messages, each of which counts, also twice.
func TestFactsAtMost(t *testing.T) {
	l := slices.Repeat([]api.FreightMessage{fact(5, api.FactStop, 500)}, api.MaxMessages)
	if got := facts(l); !got.same(reported{l[:1], api.OK}) {
		t.Error(got)
	}
	if got := facts(append(l, l[0])); !got.same(reported{e: api.ErrLong}) {
		t.Error(got)
	}
	var many []api.FreightMessage
	for i := range api.MaxMessages {
		many = append(many, fact(i, api.FactStop, i))
	}
	back := slices.Clone(many)
	slices.Reverse(back)
	if got := facts(back); !got.same(reported{many, api.OK}) {
		t.Error(got)
	}
}

// P7.2, P7.8: the same as if the messages that count are looked for one by one; and in any order, and with any of them twice.
func TestFactsAgainstEachMessage(t *testing.T) {
	g := rand.New(rand.NewSource(3))
	differ, fewer := 0, 0
	for range 5000 {
		var l []api.FreightMessage
		for range g.Intn(30) {
			l = append(l, api.FreightMessage{Charter: g.Intn(2), Number: g.Intn(5), Revision: g.Intn(5), Kind: 1 + api.FactKind(g.Intn(7)), Minute: g.Intn(3)})
		}
		if len(l) > 0 && g.Intn(2) == 0 {
			l = revisions(l)
		}
		want := reported{slowFacts(l), api.OK}
		if len(revisions(l)) < len(distinct(l)) {
			want = reported{e: api.ErrTwice}
			differ++
		} else if len(want.facts) > 2 && len(want.facts) < len(l) {
			fewer++
		}
		for _, same := range [][]api.FreightMessage{l, mixed(g, l), shuffled(g, l)} {
			if got := facts(same); !got.same(want) {
				t.Fatalf("%v: %v, want %v", same, got, want)
			}
		}
	}
	if differ < 500 || fewer < 500 {
		t.Error("too few cases:", differ, fewer)
	}
}

// revisions returns the first message of each charter, number and revision.
func revisions(l []api.FreightMessage) []api.FreightMessage {
	var first []api.FreightMessage
	for _, m := range l {
		if !slices.ContainsFunc(first, func(x api.FreightMessage) bool {
			return x.Charter == m.Charter && x.Number == m.Number && x.Revision == m.Revision
		}) {
			first = append(first, m)
		}
	}
	return first
}

// distinct returns each message once.
func distinct(l []api.FreightMessage) []api.FreightMessage {
	var first []api.FreightMessage
	for _, m := range l {
		if !slices.Contains(first, m) {
			first = append(first, m)
		}
	}
	return first
}
