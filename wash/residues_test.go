package wash_test

import (
	"math/rand"
	"slices"
	"testing"

	"thalweg/api"
	"thalweg/cases"
	"thalweg/wash"
)

// P5.1: each number of the rules, and each list, at its ends and outside of them.
func TestCheck(t *testing.T) {
	type changed struct {
		r  api.WashRules
		ok bool
	}
	var l []changed
	add := func(ok bool, change func(r *api.WashRules)) {
		r := example()
		change(&r)
		l = append(l, changed{r, ok})
	}
	for _, c := range cases.Numbers(0, api.MaxResidue) {
		for i := range 3 {
			add(c.OK, func(r *api.WashRules) { r.Levels[i] = c.N })
			add(c.OK, func(r *api.WashRules) { r.Allow[i][2-i] = c.N })
		}
	}
	for _, c := range cases.Numbers(0, api.MaxApart) {
		for i := range 3 {
			add(c.OK, func(r *api.WashRules) { r.Apart[i][2-i] = c.N })
		}
	}
	for _, c := range cases.BoundsWithin(0, api.MaxResidue) {
		add(c.OK, func(r *api.WashRules) { r.Fade = c.B })
		add(c.OK, func(r *api.WashRules) { r.Kinds[0].Power = c.B })
		add(c.OK, func(r *api.WashRules) { r.Kinds[1].Power = c.B })
	}
	for i := range 2 {
		for _, c := range cases.Numbers(0, api.MaxWashMinutes) {
			add(c.OK, func(r *api.WashRules) { r.Kinds[i].Minutes = c.N })
		}
		for _, c := range cases.Numbers(0, api.MaxWashWater) {
			add(c.OK, func(r *api.WashRules) { r.Kinds[i].Water = c.N })
		}
		for _, c := range cases.Numbers(0, api.MaxWashCost) {
			add(c.OK, func(r *api.WashRules) { r.Kinds[i].Cost = c.N })
		}
	}
	for i, c := range l {
		wantRules(t, i, c.r, c.ok)
	}
}

// wantRules fails unless all functions say whether rules are valid.
func wantRules(t *testing.T, name any, r api.WashRules, ok bool) {
	t.Helper()
	if e := wash.Check(r); e != cases.Error(ok, api.ErrArg) {
		t.Errorf("%v: %v: error %d", name, r, e)
	}
	wantErrors(t, name, args{r: r, tanks: tanksOf("")}, cases.Error(ok, api.ErrArg))
}

// P5.1: how many cargoes and kinds there are, and how long the lists of the tables are.
func TestCheckLists(t *testing.T) {
	table := func(rows, columns int) [][]int {
		var l [][]int
		for range rows {
			l = append(l, make([]int, columns))
		}
		return l
	}
	for n := range 11 {
		r := api.WashRules{Levels: make([]int, n), Allow: table(n, n), Apart: table(n, n)}
		wantRules(t, n, r, 1 <= n && n <= 8)
		for _, m := range []int{0, n - 1, n + 1} {
			if m < 0 || m == n {
				continue
			}
			for _, wrong := range [][][]int{table(m, n), table(n, m), append(table(max(n-1, 0), n), make([]int, m)), table(m, m)} {
				if n == 0 && len(wrong) == 0 {
					continue
				}
				allow, apart := r, r
				allow.Allow, apart.Apart = wrong, wrong
				wantRules(t, n, allow, false)
				wantRules(t, n, apart, false)
			}
		}
	}
	for n := range 7 {
		r := example()
		r.Kinds = slices.Repeat(r.Kinds[:1], n)
		wantRules(t, n, r, n <= 4)
	}
}

// P5.2: the example of the chapter, and what the events do.
func TestResidues(t *testing.T) {
	wide := example()
	wide.Fade = to(0, 100)
	none := example()
	none.Fade, none.Kinds[0].Power = only(0), only(0)
	for _, c := range []struct {
		name, history string
		r             api.WashRules
		want          []api.Bounds
	}{
		{"nothing happened", "", example(), []api.Bounds{only(0), only(0), only(0)}},
		{"just cleaned", "W0 W1", example(), []api.Bounds{only(0), only(0), only(0)}},
		{"the example 1", "L0 W0 L2", example(), []api.Bounds{to(40, 60), only(0), only(40)}},
		{"loaded", "L0", example(), []api.Bounds{only(100), only(0), only(0)}},
		{"the others fade", "L0 L1", example(), []api.Bounds{to(80, 90), only(60), only(0)}},
		{"the same one does not fade", "L0 L0", example(), []api.Bounds{only(100), only(0), only(0)}},
		{"they fade twice", "L0 L1 L2", example(), []api.Bounds{to(60, 80), to(40, 50), only(40)}},
		{"loaded again, it is as at first", "L0 W0 L1 L0", example(), []api.Bounds{only(100), to(40, 50), only(0)}},
		{"cleaned twice", "L0 W0 W0", example(), []api.Bounds{to(20, 40), only(0), only(0)}},
		{"cleaning reduces all", "L2 L1 L0 W0", example(), []api.Bounds{to(60, 70), to(0, 20), only(0)}},
		{"not below 0", "L0 W0 W0 W0", example(), []api.Bounds{to(0, 10), only(0), only(0)}},
		{"just to 0", "L0 W1", example(), []api.Bounds{only(0), only(0), only(0)}},
		{"another kind", "L0 L0 W1", example(), []api.Bounds{only(0), only(0), only(0)}},
		{"bounds that are wide", "L0 L1", wide, []api.Bounds{to(0, 100), only(60), only(0)}},
		{"nothing is reduced", "L0 W0 L1 W0", none, []api.Bounds{only(100), only(60), only(0)}},
	} {
		got, e := wash.Residues(c.r, events(c.history))
		if e != api.OK || !slices.Equal(got, c.want) {
			t.Errorf("%s: %v, error %d, want %v", c.name, got, e, c.want)
		}
	}
}

// P5.3: the examples of the chapter, and the edges of both conditions.
func TestMay(t *testing.T) {
	far := example()
	far.Apart[0] = []int{2, 1, 10}
	for _, c := range []struct {
		name, history string
		r             api.WashRules
		cargo         int
		surely        bool
		possibly      bool
	}{
		{"a new tank", "", example(), 0, true, true},
		{"a new tank, and a cargo that must be apart from another one", "", far, 2, true, true},
		{"cleaned only", "W0", far, 2, true, true},
		{"the example 2", "L0 W0 W0", example(), 2, false, true},
		{"the example 2, clean", "L0 W1", example(), 2, true, true},
		{"the example 2, not apart", "L0 W1", example(), 1, false, false},
		{"just as much as is allowed", "L0", example(), 0, true, true},
		{"too much in any case", "L0 W0", example(), 2, false, false},
		{"apart, and clean", "L0 L2 W1", example(), 1, true, true},
		{"apart, and surely not clean", "L0 L2", example(), 1, false, false},
		{"apart, and possibly clean", "L0 L2 W0 W0", example(), 1, false, true},
		{"the cargo itself", "L0 W1", far, 0, false, false},
		{"the cargo itself, with too few others", "L0 L2 W1", far, 0, false, false},
		{"the cargo itself, with just as many others", "L0 L2 L1 W1", far, 0, true, true},
		{"the same cargo twice between counts twice", "L0 L2 L2 W1", far, 0, true, true},
		{"the last time counts", "L0 L2 L2 L0 L2 W1", far, 0, false, false},
		{"nine others", "L0 L1 L1 L1 L1 L1 L1 L1 L1 L1 W1", far, 2, false, false},
		{"ten others", "L0 L1 L1 L1 L1 L1 L1 L1 L1 L1 L1 W1", far, 2, true, true},
		{"eleven others", "L0 L1 L1 L1 L1 L1 L1 L1 L1 L1 L1 L1 W1", far, 2, true, true},
	} {
		surely, possibly, e := wash.May(c.r, events(c.history), c.cargo)
		if e != api.OK || surely != c.surely || possibly != c.possibly {
			t.Errorf("%s: %t, %t, error %d", c.name, surely, possibly, e)
		}
	}
}

// P5.3: which cargoes there are.
func TestMayCargo(t *testing.T) {
	for _, c := range cases.Numbers(0, 2) {
		surely, possibly, e := wash.May(example(), nil, c.N)
		if surely != c.OK || possibly != c.OK || e != cases.Error(c.OK, api.ErrNone) {
			t.Errorf("%d: %t, %t, error %d", c.N, surely, possibly, e)
		}
	}
}

// breaches returns breaches from events and cargoes, one after the other, all of which are sure, or not.
func breaches(sure bool, numbers ...int) []api.WashBreach {
	var l []api.WashBreach
	for i := 0; i < len(numbers); i += 2 {
		l = append(l, api.WashBreach{Event: numbers[i], Cargo: numbers[i+1], Sure: sure})
	}
	return l
}

// P5.4: the example of the chapter, the order, and the edges of both conditions.
func TestAudit(t *testing.T) {
	far := example()
	far.Apart[0] = []int{2, 1, 10}
	for _, c := range []struct {
		name, history string
		r             api.WashRules
		want          []api.WashBreach
	}{
		{"nothing happened", "", example(), nil}, {"a new tank", "L1", far, nil}, {"cleaned only", "W0 W1", example(), nil},
		{"the example 3", "L0 W0 L2 W1", example(), breaches(true, 2, 0)},
		{"as much as is allowed", "L0 L0", example(), nil},
		{"not sure", "L0 W0 W0 L2", example(), breaches(false, 3, 0)},
		{"not apart, and sure though clean", "L0 W1 L1", example(), breaches(true, 2, 0)},
		{"not apart, and possibly clean", "L0 W0 W0 W0 L1", example(), breaches(true, 4, 0)},
		{"apart, and possibly clean", "L0 W1 L2 W0 W0 L1", example(), nil},
		{"apart, and not clean", "L0 W0 L2 W0 L1", example(), append(breaches(true, 2, 0), breaches(false, 4, 0)...)},
		{"two cargoes", "L1 L0 L2", example(), breaches(true, 2, 0, 2, 1)},
		{"several events", "L0 L2 L1 L2", example(), breaches(true, 1, 0, 2, 0, 3, 0, 3, 1)},
		{"the cargo itself", "L0 L0", far, breaches(true, 1, 0)},
		{"the cargo itself, apart", "L0 L1 W1 L1 L0", far, breaches(true, 1, 0)},
		{"cleanings have no breach", "L1 W0 L0 W0", example(), nil},
	} {
		got, e := wash.Audit(c.r, events(c.history))
		if e != api.OK || !slices.Equal(got, c.want) {
			t.Errorf("%s: %v, error %d, want %v", c.name, got, e, c.want)
		}
	}
}

// sameLists reports whether lists of lists are equal.
func sameLists(a, b [][]int) bool { return slices.EqualFunc(a, b, slices.Equal[[]int]) }

// P5.5: the example of the chapter, and cargoes that may be gone.
func TestSlops(t *testing.T) {
	for _, c := range []struct {
		name, history string
		want          [][]int
	}{
		{"nothing happened", "", nil}, {"not cleaned", "L0 L1", nil}, {"a new tank", "W1", [][]int{nil}}, {"twice", "W1 W0", [][]int{nil, nil}},
		{"the example 3", "L0 W0 L2 W1", [][]int{{0}, {0, 2}}},
		{"in the order of the cargoes", "L2 L1 L0 W1 W0", [][]int{{0, 1, 2}, nil}},
		{"possibly gone", "L2 W0 W0 W1", [][]int{{2}, {2}, nil}},
		{"faded", "L2 L0 L0 L0 W0 L0 W0", [][]int{{0, 2}, {0}}},
	} {
		got, e := wash.Slops(example(), events(c.history))
		if e != api.OK || !sameLists(got, c.want) {
			t.Errorf("%s: %v, error %d, want %v", c.name, got, e, c.want)
		}
	}
}

// P5.6: the example of the chapter, and the greatest sums.
func TestBill(t *testing.T) {
	dear := example()
	dear.Kinds[1] = api.WashKind{Minutes: api.MaxWashMinutes, Water: api.MaxWashWater, Cost: api.MaxWashCost}
	for _, c := range []struct {
		name                 string
		r                    api.WashRules
		history              []api.TankEvent
		minutes, water, cost int
	}{
		{"nothing happened", example(), nil, 0, 0, 0}, {"not cleaned", example(), events("L0 L1"), 0, 0, 0},
		{"the example 3", example(), events("L0 W0 L2 W1"), 300, 25, 110000},
		{"one kind twice", example(), events("W0 W0"), 120, 10, 40000},
		{"the most", dear, slices.Repeat(events("W1"), 100), 1000000, 1000000, 10000000000},
	} {
		minutes, water, cost, e := wash.Bill(c.r, c.history)
		if e != api.OK || minutes != c.minutes || water != c.water || cost != c.cost {
			t.Errorf("%s: %d, %d, %d, error %d", c.name, minutes, water, cost, e)
		}
	}
}

// fewEvents returns a history in which there are not too many truths.
func fewEvents(g *rand.Rand, r api.WashRules) []api.TankEvent {
	l := randomHistory(g, r, g.Intn(8))
	for n := 1; ; n++ {
		all := 1
		for _, x := range l {
			b := numbersOf(r, x)
			all *= b.High - b.Low + 1
		}
		if all <= 300 {
			return l
		}
		l = l[1:]
	}
}

// P5.2, P5.11: the bounds of all truths are the residues; those with the greatest numbers are all Lows, those with the least ones all Highs.
func TestResiduesOfTruths(t *testing.T) {
	g := rand.New(rand.NewSource(1))
	wide := 0
	for range 5000 {
		r := randomRules(g)
		l := fewEvents(g, r)
		got, e := wash.Residues(r, l)
		if e != api.OK || len(got) != len(r.Levels) {
			t.Fatalf("%v, %v: %v, error %d", r, l, got, e)
		}
		low, high := best(r, l), worst(r, l)
		for p, b := range got {
			if b != to(low[p], high[p]) {
				t.Fatalf("%v, %v: %v, want %v and %v", r, l, got, low, high)
			}
			if b.Low < b.High {
				wide++
			}
		}
		for residues := range truths(r, l) {
			for p, n := range residues {
				if n < got[p].Low || n > got[p].High {
					t.Fatalf("%v, %v: %v is not in %v", r, l, residues, got)
				}
			}
		}
	}
	if wide < 500 {
		t.Error("only", wide, "bounds are wide")
	}
}

// P5.3: a cargo is surely acceptable if it is with all truths, and possibly if it is with one.
func TestMayOfTruths(t *testing.T) {
	g := rand.New(rand.NewSource(2))
	seen := map[[2]bool]int{}
	for range 5000 {
		r := randomRules(g)
		l := fewEvents(g, r)
		for cargo := range r.Levels {
			all, one := ofTruths(r, l, func(residues []int) bool { return acceptable(r, l, residues, cargo) })
			surely, possibly, e := wash.May(r, l, cargo)
			if e != api.OK || surely != all || possibly != one {
				t.Fatalf("%v, %v, %d: %t, %t, error %d", r, l, cargo, surely, possibly, e)
			}
			seen[[2]bool{surely, possibly}]++
		}
	}
	if len(seen) != 3 || seen[[2]bool{false, true}] < 100 {
		t.Error(seen)
	}
}

// auditOf returns what Audit returns, by all truths.
func auditOf(r api.WashRules, l []api.TankEvent) []api.WashBreach {
	var found []api.WashBreach
	for i, x := range l {
		if x.Kind != api.TankLoad {
			continue
		}
		for p := range r.Levels {
			all, one := ofTruths(r, l[:i], func(residues []int) bool { return forbids(r, l[:i], residues, p, x.Number) })
			if one {
				found = append(found, api.WashBreach{Event: i, Cargo: p, Sure: all})
			}
		}
	}
	return found
}

// slopsOf returns what Slops returns, by all truths.
func slopsOf(r api.WashRules, l []api.TankEvent) [][]int {
	var found [][]int
	for i, x := range l {
		if x.Kind != api.TankWash {
			continue
		}
		var cargoes []int
		for p := range r.Levels {
			if _, one := ofTruths(r, l[:i], func(residues []int) bool { return residues[p] > 0 }); one {
				cargoes = append(cargoes, p)
			}
		}
		found = append(found, cargoes)
	}
	return found
}

// P5.4, P5.5, P5.6: breaches, slops and bills, by all truths and event by event.
func TestAuditOfTruths(t *testing.T) {
	g := rand.New(rand.NewSource(3))
	unsure := 0
	for range 5000 {
		r := randomRules(g)
		l := fewEvents(g, r)
		got, e := wash.Audit(r, l)
		if want := auditOf(r, l); e != api.OK || !slices.Equal(got, want) {
			t.Fatalf("%v, %v: %v, error %d, want %v", r, l, got, e, want)
		}
		for _, b := range got {
			if !b.Sure {
				unsure++
			}
		}
		slops, e := wash.Slops(r, l)
		if want := slopsOf(r, l); e != api.OK || !sameLists(slops, want) {
			t.Fatalf("%v, %v: %v, error %d, want %v", r, l, slops, e, want)
		}
		var sum api.WashKind
		for _, x := range l {
			if x.Kind == api.TankWash {
				k := r.Kinds[x.Number]
				sum = api.WashKind{Minutes: sum.Minutes + k.Minutes, Water: sum.Water + k.Water, Cost: sum.Cost + k.Cost}
			}
		}
		minutes, water, cost, e := wash.Bill(r, l)
		if e != api.OK || sum != (api.WashKind{Minutes: minutes, Water: water, Cost: cost}) {
			t.Fatalf("%v, %v: %d, %d, %d, error %d", r, l, minutes, water, cost, e)
		}
	}
	if unsure < 50 {
		t.Error("only", unsure, "breaches are not sure")
	}
}

// P5.4: a cargo is surely acceptable after a history just if a load of it would have no breach, and possibly if it would have none that is sure.
func TestMayAndAudit(t *testing.T) {
	g := rand.New(rand.NewSource(4))
	for range 5000 {
		r := randomRules(g)
		l := randomHistory(g, r, g.Intn(40))
		cargo := g.Intn(len(r.Levels))
		surely, possibly, _ := wash.May(r, l, cargo)
		all, e := wash.Audit(r, append(slices.Clone(l), load(cargo)))
		last := slices.DeleteFunc(all, func(b api.WashBreach) bool { return b.Event < len(l) })
		sure := slices.ContainsFunc(last, func(b api.WashBreach) bool { return b.Sure })
		if e != api.OK || surely != (len(last) == 0) || possibly == sure {
			t.Fatalf("%v, %v, %d: %t, %t, and %v", r, l, cargo, surely, possibly, last)
		}
	}
}
