package empties_test

import (
	"math/rand"
	"slices"
	"testing"

	"thalweg/api"
	"thalweg/cases"
	"thalweg/empties"
)

// weekWay returns a way that takes so many weeks.
func weekWay(from, to, cost, room, weeks int) api.WeekWay {
	return api.WeekWay{EmptyWay: way(from, to, cost, room), Weeks: weeks}
}

// twoWeeks returns the plan of the chapter's example, with hulls, as new memory.
func twoWeeks() api.EmptyWeeks {
	return api.EmptyWeeks{
		Weeks: [][]api.EmptyPort{{port(3, 0), port(1, 1)}, {port(0, 1), port(0, 2)}},
		Ways:  []api.WeekWay{weekWay(0, 1, 30, 4, 1)},
		Keep:  []int{5, 7},
	}
}

// quiet returns a plan of so many weeks with so many ports, in which nothing happens.
func quiet(weeks, ports int) api.EmptyWeeks {
	w := api.EmptyWeeks{Keep: make([]int, ports)}
	for range weeks {
		w.Weeks = append(w.Weeks, make([]api.EmptyPort, ports))
	}
	return w
}

// cloneWeeks returns a plan as new memory.
func cloneWeeks(w api.EmptyWeeks) api.EmptyWeeks {
	var weeks [][]api.EmptyPort
	for _, l := range w.Weeks {
		weeks = append(weeks, slices.Clone(l))
	}
	return api.EmptyWeeks{Weeks: weeks, Ways: slices.Clone(w.Ways), Keep: slices.Clone(w.Keep)}
}

// wantExpand fails unless a plan has an error, or a valid net.
func wantExpand(t *testing.T, name any, w api.EmptyWeeks, want api.Errno) {
	t.Helper()
	n, e := empties.Expand(w)
	if e != want || e != api.OK && len(n.Ports)+len(n.Ways) > 0 || e == api.OK && empties.Check(n) != api.OK {
		t.Errorf("%v: %v, error %d, want %d", name, n, e, want)
	}
}

// sameNet reports whether two nets are equal.
func sameNet(a, b api.EmptyNet) bool {
	return slices.Equal(a.Ports, b.Ports) && slices.Equal(a.Ways, b.Ways)
}

// P6.6: the ports and ways of a plan, in their order.
func TestExpand(t *testing.T) {
	three := quiet(3, 2)
	three.Weeks[2][1] = port(8, 9)
	three.Keep = []int{0, 1000000}
	three.Ways = []api.WeekWay{weekWay(1, 0, 3, 4, 2), weekWay(0, 1, 5, 6, 1), weekWay(0, 1, 7, 8, 3), weekWay(0, 1, 9, 10, 12)}
	for i, c := range []struct {
		w    api.EmptyWeeks
		want api.EmptyNet
	}{
		{twoWeeks(), api.EmptyNet{Ports: []api.EmptyPort{port(3, 0), port(1, 1), port(0, 1), port(0, 2)}, Ways: []api.EmptyWay{way(0, 2, 5, 1000), way(1, 3, 7, 1000), way(0, 3, 30, 4)}}},
		{three, api.EmptyNet{Ports: []api.EmptyPort{{}, {}, {}, {}, {}, port(8, 9)}, Ways: []api.EmptyWay{
			way(0, 2, 0, 1000), way(1, 3, 1000000, 1000), way(1, 4, 3, 4), way(0, 3, 5, 6),
			way(2, 4, 0, 1000), way(3, 5, 1000000, 1000), way(2, 5, 5, 6),
		}}},
		{api.EmptyWeeks{Weeks: [][]api.EmptyPort{{port(1, 2), port(3, 4)}}, Ways: []api.WeekWay{weekWay(0, 1, 3, 4, 1)}, Keep: []int{1, 2}}, api.EmptyNet{Ports: []api.EmptyPort{port(1, 2), port(3, 4)}}},
		{quiet(1, 1), api.EmptyNet{Ports: make([]api.EmptyPort, 1)}},
	} {
		if got, e := empties.Expand(c.w); !sameNet(got, c.want) || e != api.OK {
			t.Errorf("%d: %v, error %d, want %v", i, got, e, c.want)
		}
	}
}

// slowExpand builds a net week by week, with each port as a number of its own.
func slowExpand(w api.EmptyWeeks) api.EmptyNet {
	var n api.EmptyNet
	p := len(w.Keep)
	for _, week := range w.Weeks {
		n.Ports = append(n.Ports, week...)
	}
	for k := 0; k+1 < len(w.Weeks); k++ {
		for i := range p {
			n.Ways = append(n.Ways, way(k*p+i, (k+1)*p+i, w.Keep[i], 1000))
		}
		for _, x := range w.Ways {
			if k+x.Weeks <= len(w.Weeks)-1 {
				n.Ways = append(n.Ways, way(k*p+x.From, (k+x.Weeks)*p+x.To, x.Cost, x.Room))
			}
		}
	}
	return n
}

// randomWeeks returns a valid plan.
func randomWeeks(g *rand.Rand, weeks, ports int) api.EmptyWeeks {
	w := quiet(1+g.Intn(weeks), 1+g.Intn(ports))
	for _, week := range w.Weeks {
		for i := range week {
			week[i] = port(g.Intn(5), g.Intn(4))
		}
	}
	w.Keep = randomList(g, len(w.Keep), 6)
	for range g.Intn(8) {
		if len(w.Keep) > 1 {
			w.Ways = append(w.Ways, api.WeekWay{EmptyWay: randomWay(g, len(w.Keep), middle), Weeks: 1 + g.Intn(4)})
		}
	}
	return w
}

// P6.6: random plans.
func TestExpandRandomPlans(t *testing.T) {
	g := rand.New(rand.NewSource(10))
	for range 500 {
		w := randomWeeks(g, 12, 5)
		if got, e := empties.Expand(w); !sameNet(got, slowExpand(w)) || e != api.OK {
			t.Fatalf("%v: %v, error %d, want %v", w, got, e, slowExpand(w))
		}
	}
}

// P6.6: the form of a plan.
func TestExpandForm(t *testing.T) {
	for weeks := range 14 {
		for ports := range 4 {
			form := weeks >= 1 && weeks <= 12 && ports >= 1
			wantExpand(t, []int{weeks, ports}, quiet(weeks, ports), cases.Error(form, api.ErrForm))
			for keep := range 4 {
				w := quiet(weeks, ports)
				w.Keep = make([]int, keep)
				wantExpand(t, []int{weeks, ports, keep}, w, cases.Error(form && keep == ports, api.ErrForm))
			}
			for i := range weeks {
				w := quiet(weeks, ports)
				w.Weeks[i] = make([]api.EmptyPort, ports+1)
				wantExpand(t, []int{weeks, ports, i}, w, api.ErrForm)
			}
		}
	}
	wantExpand(t, "nothing", api.EmptyWeeks{}, api.ErrForm)
}

// P6.6: how many ports and ways a plan has in all its weeks.
func TestExpandLong(t *testing.T) {
	for weeks := 1; weeks <= 12; weeks++ {
		wantExpand(t, weeks, quiet(weeks, 60/weeks), api.OK)
		wantExpand(t, weeks, quiet(weeks, 60/weeks+1), api.ErrLong)
	}
	// 55 ways keep hulls; a way of one week leaves 11 times, one of 11 weeks once, one of 12 weeks never.
	ways := func(one, eleven, twelve int, others ...api.WeekWay) api.EmptyWeeks {
		w := quiet(12, 5)
		w.Ways = slices.Concat(
			slices.Repeat([]api.WeekWay{weekWay(0, 4, 1, 1, 1)}, one),
			slices.Repeat([]api.WeekWay{weekWay(4, 0, 1, 1, 11)}, eleven),
			slices.Repeat([]api.WeekWay{weekWay(3, 2, 1, 1, 12)}, twelve), others)
		return w
	}
	for _, c := range []struct {
		w    api.EmptyWeeks
		want api.Errno
	}{
		{ways(22, 3, 0), api.OK}, {ways(22, 4, 0), api.ErrLong}, {ways(23, 0, 0), api.ErrLong}, {ways(22, 3, 1000), api.OK}, {ways(0, 245, 0), api.OK}, {ways(0, 246, 0), api.ErrLong},
		{ways(22, 3, 0, weekWay(9, 9, -1, -1, 11)), api.ErrLong}, {ways(22, 3, 0, weekWay(0, 1, 0, 0, 13)), api.ErrArg}, {ways(22, 3, 0, weekWay(0, 1, 0, 0, 0)), api.ErrArg}, {ways(22, 3, 0, weekWay(0, 1, 0, 0, -5)), api.ErrArg},
		{ways(22, 2, 0, weekWay(9, 9, -1, -1, 11)), api.ErrArg}, {ways(22, 4, 0, weekWay(0, 1, 0, 0, -5)), api.ErrLong},
	} {
		wantExpand(t, len(c.w.Ways), c.w, c.want)
	}
	one := quiet(1, 2)
	one.Ways = slices.Repeat([]api.WeekWay{weekWay(0, 1, 1, 1, 1)}, 1000)
	wantExpand(t, "a week without ways", one, api.OK)
	short := quiet(2, 2)
	short.Ways = slices.Concat(slices.Repeat([]api.WeekWay{weekWay(0, 1, 1, 1, 1)}, 298), slices.Repeat([]api.WeekWay{weekWay(0, 1, 1, 1, 12)}, 9))
	wantExpand(t, "ways that come too late count for nothing", short, api.OK)
	short.Ways[300].Weeks = 1
	wantExpand(t, "ways that come too late give no room for others", short, api.ErrLong)
	two := quiet(2, 1)
	two.Ways = slices.Repeat([]api.WeekWay{weekWay(0, 1, 1, 1, -1)}, 1000)
	wantExpand(t, "no ways that count", two, api.ErrArg)
}

// P6.6: each number of a plan, at the ends of what is valid and outside.
func TestExpandNumbers(t *testing.T) {
	check := func(c cases.Number, change func(w api.EmptyWeeks)) {
		t.Helper()
		w := quiet(3, 3)
		w.Ways = []api.WeekWay{weekWay(0, 1, 1, 1, 1), weekWay(2, 1, 1, 1, 2)}
		change(w)
		wantExpand(t, w, w, cases.Error(c.OK, api.ErrArg))
	}
	for _, c := range cases.Numbers(0, 1000) {
		for i := range 9 {
			check(c, func(w api.EmptyWeeks) { w.Weeks[i/3][i%3].Has = c.N })
			check(c, func(w api.EmptyWeeks) { w.Weeks[i/3][i%3].Wants = c.N })
		}
		check(c, func(w api.EmptyWeeks) { w.Ways[0].Room = c.N })
		check(c, func(w api.EmptyWeeks) { w.Ways[1].Room = c.N })
	}
	for _, c := range cases.Numbers(0, 1000000) {
		for i := range 3 {
			check(c, func(w api.EmptyWeeks) { w.Keep[i] = c.N })
		}
		check(c, func(w api.EmptyWeeks) { w.Ways[0].Cost = c.N })
		check(c, func(w api.EmptyWeeks) { w.Ways[1].Cost = c.N })
	}
	for _, c := range cases.Numbers(1, 12) {
		check(c, func(w api.EmptyWeeks) { w.Ways[0].Weeks = c.N })
		check(c, func(w api.EmptyWeeks) { w.Ways[1].Weeks = c.N })
	}
	for _, from := range cases.Numbers(0, 2) {
		for _, to := range cases.Numbers(0, 2) {
			for i := range 2 {
				c := cases.Number{OK: from.OK && to.OK && from.N != to.N}
				check(c, func(w api.EmptyWeeks) { w.Ways[i].From, w.Ways[i].To = from.N, to.N })
			}
		}
	}
}

// P6.6: the errors, in the order in which they are listed.
func TestExpandOrderOfErrors(t *testing.T) {
	all := quiet(13, 60)
	all.Keep[0] = -1
	all.Ways = slices.Repeat([]api.WeekWay{weekWay(9, 9, -1, -1, 1)}, 400)
	wantExpand(t, "the form, before all else", all, api.ErrForm)
	all.Weeks = all.Weeks[:12]
	wantExpand(t, "too many ports, before the numbers", all, api.ErrLong)
	for k := range all.Weeks {
		all.Weeks[k] = all.Weeks[k][:5]
	}
	wantExpand(t, "the form again", all, api.ErrForm)
	all.Keep = all.Keep[:5]
	wantExpand(t, "too many ways, before the numbers", all, api.ErrLong)
	all.Ways = all.Ways[:2]
	wantExpand(t, "the numbers", all, api.ErrArg)
}

// netOf returns the net of a plan, which must be valid.
func netOf(t *testing.T, w api.EmptyWeeks) api.EmptyNet {
	t.Helper()
	n, e := empties.Expand(w)
	if e != api.OK {
		t.Fatalf("%v: error %d", w, e)
	}
	return n
}

// P6.6: what a plan costs: a hull is kept, or sent in time.
func TestCostOfPlans(t *testing.T) {
	w := twoWeeks()
	if got := leastCost(netOf(t, w)); got != (number{5 + 60, api.OK}) {
		t.Error("one is kept, two are sent:", got)
	}
	w.Weeks[0][1] = port(2, 1)
	if got := leastCost(netOf(t, w)); got != (number{5 + 30 + 7, api.OK}) {
		t.Error("one is sent, two are kept:", got)
	}
	w.Ways[0].Weeks = 2
	if got := leastCost(netOf(t, w)); got != (number{0, api.ErrNone}) {
		t.Error("too late:", got)
	}
}

// P6.10: in one week no hull moves; with a quiet week more at the end the least cost is the same.
func TestWeeks(t *testing.T) {
	g := rand.New(rand.NewSource(11))
	seen := map[api.Errno]int{}
	for range 500 {
		w := randomWeeks(g, 4, 4)
		n := netOf(t, w)
		if len(w.Weeks) == 1 && len(n.Ways) > 0 {
			t.Fatalf("%v: %v", w, n)
		}
		longer := cloneWeeks(w)
		longer.Weeks = append(longer.Weeks, make([]api.EmptyPort, len(w.Keep)))
		got, want := leastCost(netOf(t, longer)), leastCost(n)
		if got != want {
			t.Fatalf("%v: %v, with a week more %v", w, want, got)
		}
		seen[want.e]++
	}
	if seen[api.OK] < 50 || seen[api.ErrNone] < 50 {
		t.Error("too few cases:", seen)
	}
}
