package lock_test

import (
	"math"
	"math/rand"
	"slices"
	"testing"

	"thalweg/api"
	"thalweg/lock"
)

// extremes are integers at which sums and products would overflow.
var extremes = []int{math.MinInt, math.MinInt + 1, -1, 0, 1, math.MaxInt - 1, math.MaxInt}

// args are the arguments of all functions with tows.
type args struct {
	l    api.Lock
	tows []api.LockTow
	plan []api.LockStep
	most int
}

// goodArgs have no error.
func goodArgs() args {
	return args{example, exampleTows(), steps("u2", "d1"), math.MaxInt}
}

// reply is the error of a call, and whether all its other results are zero values.
type reply struct {
	name  string
	e     api.Errno
	empty bool
}

// replies calls all functions with tows.
func replies(a args) []reply {
	r := run(a.l, a.tows, a.plan)
	w, e := lock.Water(a.l, a.tows, a.plan)
	b, c := best(a.l, a.tows), thrift(a.l, a.tows, a.most)
	return []reply{
		{"Run", r.e, r.same(ran{e: r.e})},
		{"Water", e, w == api.LockWater{}},
		{"Best", b.e, b.same(choice{e: b.e})},
		{"Thrift", c.e, c.same(choice{e: c.e})},
	}
}

// wantErrors fails unless all functions with tows return an error, and nothing else, or no error.
func wantErrors(t *testing.T, name string, a args, want api.Errno) {
	t.Helper()
	for _, x := range replies(a) {
		if x.e != want || x.e != api.OK && !x.empty {
			t.Errorf("%s: %s: error %d, nothing else is %t, want error %d", name, x.name, x.e, x.empty, want)
		}
	}
}

// wantNothingBesideErrors fails if a function returns a result beside an error.
func wantNothingBesideErrors(t *testing.T, l []reply) {
	t.Helper()
	for _, x := range l {
		if x.e != api.OK && !x.empty {
			t.Errorf("%s: a result beside the error %d", x.name, x.e)
		}
	}
}

// P1: all functions return, whatever their arguments are.
func TestExtremes(t *testing.T) {
	for _, a := range extremes {
		for _, b := range extremes {
			wild := api.Lock{Length: a, Cycle: b, Turn: a, Fill: b, Save: a}
			tows := []api.LockTow{{Up: true, Arrive: a, Length: b, Weight: a, Push: b}, {Arrive: b, Length: a, Weight: b, Push: a}}
			plan := []api.LockStep{{Up: true, Tows: a}, {Tows: b}, {Up: true, Tows: b}, {Tows: a}}
			for _, x := range []args{{wild, tows, plan, a}, {example, tows, plan, b}, {example, exampleTows(), plan, a}, {wild, exampleTows(), steps("u2", "d1"), b}, {l: wild}} {
				wantNothingBesideErrors(t, replies(x))
			}
			r := api.LockReach{Volume: a, Least: b, Inflow: to(a, b)}
			lk := api.LockTraffic{Fill: a, Cycles: to(b, a)}
			for _, x := range []chainArgs{{[]api.LockReach{r, r}, []api.LockTraffic{lk}, a}, {exampleChain().reaches, []api.LockTraffic{lk}, b}, {exampleChain().reaches, exampleChain().locks, a}, {[]api.LockReach{r}, nil, b}} {
				wantNothingBesideErrors(t, chainReplies(x))
			}
		}
	}
	wantNothingBesideErrors(t, replies(args{}))
	wantNothingBesideErrors(t, chainReplies(chainArgs{}))
}

// R1, P4.2 to P4.5: the errors, in the order in which they are listed.
func TestOrderOfErrors(t *testing.T) {
	wrong := example
	wrong.Save = 91
	many := slices.Repeat([]api.LockTow{goesUp(0, 60)}, 8)
	bad := slices.Repeat([]api.LockTow{goesUp(0, 0)}, 9)
	for _, c := range []struct {
		name                       string
		a                          args
		run, water, best, thrifted api.Errno
	}{
		{"nothing is wrong", goodArgs(), api.OK, api.OK, api.OK, api.OK},
		{"the lock, before all else", args{wrong, bad, nil, -1}, api.ErrArg, api.ErrArg, api.ErrArg, api.ErrArg},
		{"the lock, before the number of tows", args{wrong, append(many, many...), nil, -1}, api.ErrArg, api.ErrArg, api.ErrArg, api.ErrArg},
		{"the number of tows, before the tows", args{example, bad, nil, -1}, api.ErrLong, api.ErrLong, api.ErrLong, api.ErrLong},
		{"the number of tows", args{example, append(many, many[0]), slices.Repeat(steps("u1"), 9), math.MaxInt}, api.ErrLong, api.ErrLong, api.ErrLong, api.ErrLong},
		{"the most tows", args{example, many, slices.Repeat(steps("u1"), 8), math.MaxInt}, api.OK, api.OK, api.OK, api.OK},
		{"a tow, before the plan", args{example, bad[:8], nil, -1}, api.ErrArg, api.ErrArg, api.ErrArg, api.ErrArg},
		{"the last tow, before the plan", args{example, append(exampleTows(), api.LockTow{}), steps("u0"), -1}, api.ErrArg, api.ErrArg, api.ErrArg, api.ErrArg},
		{"a plan that is not complete, before tows that do not fit", args{example, many, steps("u2"), -1}, api.ErrForm, api.ErrForm, api.OK, api.ErrNone},
		{"tows that do not fit", args{example, many, steps("u8"), -1}, api.ErrFull, api.ErrFull, api.OK, api.ErrNone},
		{"no plan is cheap enough", args{example, exampleTows(), steps("u2", "d1"), 139}, api.OK, api.OK, api.OK, api.ErrNone},
	} {
		want := []api.Errno{c.run, c.water, c.best, c.thrifted}
		for i, x := range replies(c.a) {
			if x.e != want[i] || x.e != api.OK && !x.empty {
				t.Errorf("%s: %s: error %d, nothing else is %t, want error %d", c.name, x.name, x.e, x.empty, want[i])
			}
		}
	}
}

// P1, R2: with arguments that are valid, or not, no result comes with an error.
func TestNothingBesideErrors(t *testing.T) {
	g := rand.New(rand.NewSource(4))
	seen := map[api.Errno]bool{}
	for range 2000 {
		a := args{l: randomLock(g), most: g.Intn(1000)}
		a.tows = randomTows(g, a.l, g.Intn(5))
		if g.Intn(6) == 0 {
			a.tows = randomTows(g, a.l, 9)
		}
		a.plan = randomPlan(g, a.tows)
		if g.Intn(6) == 0 {
			a.l.Length = g.Intn(100)
		}
		c := randomChain(g)
		if g.Intn(4) == 0 {
			c.reaches[0].Volume = -1
		}
		if g.Intn(4) == 0 {
			c.locks = append(c.locks, api.LockTraffic{})
		}
		c.days += g.Intn(2) * api.MaxLockDays
		l := append(replies(a), chainReplies(c)...)
		wantNothingBesideErrors(t, l)
		for _, x := range l {
			seen[x.e] = true
		}
	}
	for _, e := range []api.Errno{api.OK, api.ErrArg, api.ErrRange, api.ErrForm, api.ErrLong, api.ErrNone, api.ErrFull} {
		if !seen[e] {
			t.Error("no error", e)
		}
	}
}

// R3: nil and empty lists are the same.
func TestNilAndEmpty(t *testing.T) {
	for _, tows := range [][]api.LockTow{nil, {}} {
		for _, plan := range [][]api.LockStep{nil, {}} {
			wantErrors(t, "no tows", args{l: example, tows: tows, plan: plan}, api.OK)
			if r := run(example, tows, plan); !r.same(ran{}) {
				t.Error("no tows:", r)
			}
			if r := run(example, exampleTows(), plan); !r.same(ran{e: api.ErrForm}) {
				t.Error("no steps:", r)
			}
			if b, c := best(example, tows), thrift(example, tows, 0); !b.same(choice{}) || !c.same(choice{}) {
				t.Error("no tows:", b, c)
			}
		}
	}
	for _, reaches := range [][]api.LockReach{nil, {}} {
		for _, locks := range [][]api.LockTraffic{nil, {}} {
			wantChain(t, "no reaches", chainArgs{reaches, locks, 1}, api.ErrForm)
			wantChain(t, "no locks", chainArgs{[]api.LockReach{{}}, locks, 1}, api.OK)
			wantChain(t, "no lock between two", chainArgs{make([]api.LockReach, 2), locks, 1}, api.ErrForm)
			wantChain(t, "a lock between none", chainArgs{reaches, []api.LockTraffic{{}}, 1}, api.ErrForm)
		}
	}
}

// R4: no argument is changed, also not behind the end of a list.
func TestArgumentsAreKept(t *testing.T) {
	tows := append(exampleTows(), goesUp(3, 50), goesDown(1, 20), goesUp(2, 200), goesDown(0, 7))
	plan := append(steps("u1", "u1", "u1", "d1"), steps("d1", "u1")...)
	sameTows, samePlan := slices.Clone(tows), slices.Clone(plan)
	replies(args{example, tows[:5], plan[:5], math.MaxInt})
	if !slices.Equal(tows, sameTows) || !slices.Equal(plan, samePlan) {
		t.Error("the tows or the plan were changed:", tows, plan)
	}
	c := exampleChain()
	reaches, locks := append(c.reaches, api.LockReach{Volume: 7}), append(c.locks, api.LockTraffic{Fill: 7})
	sameReaches, sameLocks := slices.Clone(reaches), slices.Clone(locks)
	chainReplies(chainArgs{reaches[:2], locks[:1], 5})
	if !slices.Equal(reaches, sameReaches) || !slices.Equal(locks, sameLocks) {
		t.Error("the chain was changed:", reaches, locks)
	}
}

// R4: what is written into a result is not seen in an argument, nor in another result.
func TestResultsAreNew(t *testing.T) {
	tows := exampleTows()
	for _, find := range []func() choice{func() choice { return best(example, tows) }, func() choice { return thrift(example, tows, 140) }} {
		x := find()
		for i := range x.plan[:cap(x.plan)] {
			x.plan[:cap(x.plan)][i] = api.LockStep{Tows: 9}
		}
		if again := find(); !again.same(choice{steps("u2", "d1"), 140, api.OK}) {
			t.Error("again:", again)
		}
	}
	r := run(example, tows, steps("u2", "d1"))
	r.runs[0] = api.LockRun{}
	if again := run(example, tows, steps("u2", "d1")); !again.same(ran{runs(10, 30, 30, 50), 140, 2, api.OK}) {
		t.Error("again:", again)
	}
	c := exampleChain()
	days, _ := lock.Days(c.reaches, c.locks, 3)
	kept := slices.Clone(days[2])
	for i := range days[:2] {
		for j := range days[i][:cap(days[i])] {
			days[i][:cap(days[i])][j] = to(9, 9)
		}
	}
	if !slices.Equal(days[2], kept) {
		t.Error("days share memory:", days)
	}
	again, _ := lock.Days(c.reaches, c.locks, 3)
	if again[0][0] != to(8500, 9600) {
		t.Error("again:", again)
	}
}
