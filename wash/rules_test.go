package wash_test

import (
	"math"
	"math/rand"
	"reflect"
	"slices"
	"testing"

	"thalweg/api"
	"thalweg/cases"
	"thalweg/wash"
)

// extremes are integers at which sums and products would overflow.
var extremes = []int{math.MinInt, math.MinInt + 1, -1, 0, 1, math.MaxInt - 1, math.MaxInt}

// args are the arguments of all functions; those with one history take the first one.
type args struct {
	r     api.WashRules
	tanks [][]api.TankEvent
	cargo int
	jobs  []int
	steps []api.WashStep
}

// goodArgs have no error.
func goodArgs() args {
	return args{example(), tanksOf("L0", "L1"), 2, []int{2, 1}, steps(0, 1, 0, -1)}
}

// reply is the error of a call, the index that comes with it, and whether all its other results are zero values.
type reply struct {
	name  string
	e     api.Errno
	at    int
	empty bool
}

// history returns the first history.
func (a args) history() []api.TankEvent {
	if len(a.tanks) == 0 {
		return nil
	}
	return a.tanks[0]
}

// replies calls all functions but Check.
func replies(a args) []reply {
	l := a.history()
	residues, e1 := wash.Residues(a.r, l)
	surely, possibly, e2 := wash.May(a.r, l, a.cargo)
	breaches, e3 := wash.Audit(a.r, l)
	slops, e4 := wash.Slops(a.r, l)
	minutes, water, cost, e5 := wash.Bill(a.r, l)
	p, f, s, v := plan(a.r, l, a.jobs), fewest(a.r, l, a.jobs), fleet(a.r, a.tanks, a.jobs), verify(a.r, a.tanks, a.jobs, a.steps)
	return []reply{
		{"Residues", e1, 0, len(residues) == 0}, {"May", e2, 0, !surely && !possibly}, {"Audit", e3, 0, len(breaches) == 0},
		{"Slops", e4, 0, len(slops) == 0}, {"Bill", e5, 0, minutes == 0 && water == 0 && cost == 0},
		{"Plan", p.e, p.at, p.same(planned{at: p.at, e: p.e})}, {"Fewest", f.e, f.at, f.same(planned{at: f.at, e: f.e})},
		{"Fleet", s.e, s.at, s.same(sent{at: s.at, e: s.e})}, {"Verify", v.e, 0, v == proof{e: v.e}},
	}
}

// wrong reports whether something comes with an error, or an index without ErrNone.
func (x reply) wrong() bool { return x.e != api.OK && !x.empty || x.e != api.ErrNone && x.at != 0 }

// wantErrors fails unless all functions return an error, and nothing else, or no error.
func wantErrors(t *testing.T, name any, a args, want api.Errno) {
	t.Helper()
	for _, x := range replies(a) {
		if x.e != want || x.wrong() {
			t.Errorf("%v: %v, want error %d", name, x, want)
		}
	}
}

// wantNothingBesideErrors fails if a function returns a result beside an error.
func wantNothingBesideErrors(t *testing.T, l []reply) {
	t.Helper()
	for _, x := range l {
		if x.wrong() {
			t.Errorf("a result beside an error: %v", x)
		}
	}
}

// P5.2 to P5.10: the events of a history, at the ends of what is valid and outside.
func TestEvents(t *testing.T) {
	good := goodArgs()
	good.r.Fade = only(api.MaxResidue)
	good.r.Apart = make([][]int, 3)
	for p := range good.r.Apart {
		good.r.Apart[p] = make([]int, 3)
		good.r.Allow[p] = slices.Repeat([]int{api.MaxResidue}, 3)
	}
	check := func(l []api.TankEvent, want api.Errno) {
		t.Helper()
		a := good
		a.tanks = [][]api.TankEvent{l, nil}
		wantErrors(t, l, a, want)
		a.tanks = [][]api.TankEvent{nil, l}
		s, v := fleet(a.r, a.tanks, a.jobs), verify(a.r, a.tanks, a.jobs, a.steps)
		if s.e != want || v.e != want {
			t.Errorf("%v in the second tank: %v, %v, want error %d", l, s, v, want)
		}
	}
	for _, c := range cases.Numbers(1, 2) {
		for n := range 2 {
			check([]api.TankEvent{{Kind: api.TankEventKind(c.N), Number: n}}, cases.Error(c.OK, api.ErrArg))
		}
	}
	for _, c := range cases.Numbers(0, 2) {
		check([]api.TankEvent{load(c.N)}, cases.Error(c.OK, api.ErrArg))
		check([]api.TankEvent{load(0), clean(1), load(c.N)}, cases.Error(c.OK, api.ErrArg))
	}
	for _, c := range cases.Numbers(0, 1) {
		check([]api.TankEvent{clean(c.N), load(0)}, cases.Error(c.OK, api.ErrArg))
	}
	for _, x := range []api.TankEvent{load(1), clean(1)} {
		check(slices.Repeat([]api.TankEvent{x}, 100), api.OK)
		check(slices.Repeat([]api.TankEvent{x}, 101), api.ErrLong)
	}
	check(slices.Repeat([]api.TankEvent{{}}, 100), api.ErrArg)
	check(slices.Repeat([]api.TankEvent{{}}, 101), api.ErrLong)
}

// P5.7 to P5.10: which cargoes can be carried, and how many.
func TestJobs(t *testing.T) {
	one := tanksOf("")
	for _, c := range cases.Numbers(0, 2) {
		want := cases.Error(c.OK, api.ErrArg)
		for _, jobs := range [][]int{{c.N}, {0, 0, c.N}} {
			got := []api.Errno{plan(example(), nil, jobs).e, fewest(example(), nil, jobs).e, fleet(example(), one, jobs).e, verify(example(), one, jobs, slices.Repeat(steps(0, 1), len(jobs))).e}
			for i, e := range got {
				if e != want && !(e == api.ErrNone && c.OK) {
					t.Errorf("%v: %d: error %d, want %d", jobs, i, e, want)
				}
			}
		}
	}
	for n := range 13 {
		jobs := make([]int, n)
		p, f := plan(example(), nil, jobs), fewest(example(), nil, jobs)
		if want := cases.Error(n <= 10, api.ErrLong); p.e != want || f.e != want {
			t.Errorf("%d cargoes: %v, %v", n, p, f)
		}
		s, v := fleet(example(), one, jobs), verify(example(), one, jobs, slices.Repeat(steps(0, -1), n))
		if want := cases.Error(n <= 6, api.ErrLong); s.e != want || v.e != want {
			t.Errorf("%d cargoes: %v, %v", n, s, v)
		}
	}
}

// R1: the errors, in the order in which they are listed.
func TestOrderOfErrors(t *testing.T) {
	wrong := example()
	wrong.Fade = to(1, 0)
	long, bad := slices.Repeat(events("L0"), 101), []api.TankEvent{load(3)}
	longBad := append(slices.Clone(bad), long...)
	six, seven, ten, eleven := slices.Repeat([]int{0}, 6), slices.Repeat([]int{0}, 7), slices.Repeat([]int{0}, 10), slices.Repeat([]int{9}, 11)
	const ok, arg, form, tooLong, none = api.OK, api.ErrArg, api.ErrForm, api.ErrLong, api.ErrNone
	type errors struct{ history, may, plan, fleet, verify api.Errno }
	for _, c := range []struct {
		name string
		a    args
		want errors
	}{
		{"nothing is wrong", goodArgs(), errors{ok, ok, ok, ok, ok}},
		{"the rules, before all else", args{wrong, [][]api.TankEvent{longBad, bad, bad, bad}, 9, eleven, nil}, errors{arg, arg, arg, arg, arg}},
		{"the rules, before no tanks", args{wrong, nil, 9, eleven, nil}, errors{arg, arg, arg, arg, arg}},
		{"too many tanks, before their histories", args{example(), [][]api.TankEvent{bad, nil, nil, nil}, 9, eleven, nil}, errors{arg, arg, arg, tooLong, tooLong}},
		{"the most tanks", args{example(), tanksOf("", "", ""), 0, six, slices.Repeat(steps(2, -1), 6)}, errors{ok, ok, ok, ok, ok}},
		{"one tank too many", args{example(), tanksOf("", "", "", ""), 0, six, slices.Repeat(steps(2, -1), 6)}, errors{ok, ok, ok, tooLong, tooLong}},
		{"no tanks, before the cargoes", args{example(), nil, 9, eleven, nil}, errors{ok, none, tooLong, form, form}},
		{"a long history, before its events", args{example(), [][]api.TankEvent{longBad}, 9, eleven, nil}, errors{tooLong, tooLong, tooLong, tooLong, tooLong}},
		{"an event, before the cargoes", args{example(), [][]api.TankEvent{bad}, 9, eleven, nil}, errors{arg, arg, arg, arg, arg}},
		{"tank by tank: an event", args{example(), [][]api.TankEvent{bad, long}, 9, eleven, nil}, errors{arg, arg, arg, arg, arg}},
		{"tank by tank: a long history", args{example(), [][]api.TankEvent{long, bad}, 9, eleven, nil}, errors{tooLong, tooLong, tooLong, tooLong, tooLong}},
		{"the last tank, before the cargoes", args{example(), [][]api.TankEvent{nil, nil, bad}, 9, seven, nil}, errors{ok, none, ok, arg, arg}},
		{"too many cargoes, before these", args{example(), tanksOf(""), 0, slices.Repeat([]int{9}, 7), nil}, errors{ok, ok, arg, tooLong, tooLong}},
		{"too many cargoes of one tank, before these", args{example(), tanksOf(""), 0, eleven, nil}, errors{ok, ok, tooLong, tooLong, tooLong}},
		{"the most cargoes of one tank", args{example(), tanksOf(""), 0, ten, nil}, errors{ok, ok, ok, tooLong, tooLong}},
		{"a cargo that is not there, before the steps", args{example(), tanksOf(""), 0, []int{0, 3}, steps(7, 7)}, errors{ok, ok, arg, arg, arg}},
		{"no cargo to ask about", args{example(), tanksOf(""), 3, []int{0}, steps(0, 0)}, errors{ok, none, ok, ok, ok}},
		{"no plan is no error of Verify", args{example(), tanksOf("L0", "L0"), 1, []int{1}, steps(0, 0)}, errors{ok, ok, none, none, ok}},
		{"too few steps, before these", args{example(), tanksOf(""), 0, []int{0, 0}, steps(7, 7)}, errors{ok, ok, ok, ok, form}},
		{"too many steps", args{example(), tanksOf(""), 0, nil, steps(0, -1)}, errors{ok, ok, ok, ok, form}},
		{"a tank that is not there, before what is not acceptable", args{example(), tanksOf("L0"), 0, []int{0, 1, 0}, steps(0, -1, 0, -1, 1, -1)}, errors{ok, ok, none, none, arg}},
		{"a kind that is not there", args{example(), tanksOf("L0"), 0, []int{0}, steps(0, 2)}, errors{ok, ok, ok, ok, arg}},
	} {
		w := c.want
		want := []api.Errno{w.history, w.may, w.history, w.history, w.history, w.plan, w.plan, w.fleet, w.verify}
		for i, x := range replies(c.a) {
			if x.e != want[i] || x.wrong() {
				t.Errorf("%s: %v, want error %d", c.name, x, want[i])
			}
		}
	}
}

// P1: all functions return, whatever their arguments are.
func TestExtremes(t *testing.T) {
	for _, a := range extremes {
		for _, b := range extremes {
			wild := api.WashRules{Levels: []int{a, b}, Fade: to(a, b), Allow: [][]int{{a, b}, {b, a}}, Apart: [][]int{{b, a}, {a, b}}, Kinds: []api.WashKind{{Power: to(b, a), Minutes: a, Water: b, Cost: a}}}
			l := []api.TankEvent{{Kind: api.TankEventKind(a), Number: b}, load(a), clean(b)}
			tanks := [][]api.TankEvent{l, {load(b)}}
			for _, r := range []api.WashRules{wild, example(), {Levels: []int{a}}, {Apart: wild.Apart, Allow: wild.Allow}} {
				wantNothingBesideErrors(t, replies(args{r, tanks, a, []int{a, b}, []api.WashStep{{Tank: a, Wash: b}, {Tank: b, Wash: a}}}))
				wantNothingBesideErrors(t, replies(args{r, tanksOf("L0", ""), b, []int{0, 1}, []api.WashStep{{Tank: a, Wash: b}, {Tank: 0, Wash: a}}}))
				wantNothingBesideErrors(t, replies(args{r, nil, a, nil, nil}))
			}
		}
	}
	wantNothingBesideErrors(t, replies(args{}))
}

// P1, R2: with arguments that are valid, or not, no result comes with an error, but for the index of ErrNone.
func TestNothingBesideErrors(t *testing.T) {
	g := rand.New(rand.NewSource(14))
	seen := map[api.Errno]bool{}
	for range 2000 {
		r := randomRules(g)
		a := args{r, randomTanks(g, r, g.Intn(5)), g.Intn(6), randomJobs(g, r, g.Intn(12)), randomSteps(g, r, 3, g.Intn(7))}
		if g.Intn(8) == 0 {
			a.jobs = append(a.jobs, g.Intn(7)-1)
		}
		if g.Intn(8) == 0 {
			a.r.Apart = randomTable(g, len(r.Levels), 11)
		}
		l := replies(a)
		wantNothingBesideErrors(t, l)
		for _, x := range l {
			seen[x.e] = true
		}
	}
	for _, e := range []api.Errno{api.OK, api.ErrArg, api.ErrForm, api.ErrLong, api.ErrNone} {
		if !seen[e] {
			t.Error("no error", e)
		}
	}
}

// R3: nil and empty lists are the same.
func TestNilAndEmpty(t *testing.T) {
	for _, kinds := range [][]api.WashKind{nil, {}} {
		for _, l := range [][]api.TankEvent{nil, {}} {
			for _, jobs := range [][]int{nil, {}} {
				for _, s := range [][]api.WashStep{nil, {}} {
					r := example()
					r.Kinds = kinds
					wantErrors(t, "nothing", args{r, [][]api.TankEvent{l}, 0, jobs, s}, api.OK)
					if got := verify(r, [][]api.TankEvent{l}, jobs, s); got != (proof{at: -1}) {
						t.Error("no steps:", got)
					}
				}
			}
		}
	}
	for _, tanks := range [][][]api.TankEvent{nil, {}} {
		if s, v := fleet(example(), tanks, nil), verify(example(), tanks, nil, nil); !s.same(sent{e: api.ErrForm}) || v != (proof{e: api.ErrForm}) {
			t.Error("no tanks:", s, v)
		}
	}
	for _, r := range []api.WashRules{{}, {Levels: []int{}, Allow: [][]int{}, Apart: [][]int{}, Kinds: []api.WashKind{}}} {
		wantRules(t, "no cargoes", r, false)
	}
}

// R4: no argument is changed, also not behind the end of a list.
func TestArgumentsAreKept(t *testing.T) {
	whole := goodArgs()
	whole.tanks = tanksOf("L0 W0 L1 L0", "L1 W1 L2")
	same := args{cloneRules(whole.r), cloneRows(whole.tanks), 2, slices.Clone(whole.jobs), slices.Clone(whole.steps)}
	part := whole
	part.tanks = [][]api.TankEvent{whole.tanks[0][:1], whole.tanks[1][:1]}
	replies(part)
	part.jobs, part.steps = whole.jobs[:1], whole.steps[:1]
	replies(part)
	if !reflect.DeepEqual(whole, same) {
		t.Error("changed:", whole)
	}
}

// spoil writes into a whole list.
func spoil[T any](l []T, x T) {
	for i := range l[:cap(l)] {
		l[:cap(l)][i] = x
	}
}

// R4: what is written into a result is not seen in an argument, nor in another result.
func TestResultsAreNew(t *testing.T) {
	a := goodArgs()
	want := replies(a)
	l := events("L0 W0 L2 W1")
	residues, _ := wash.Residues(a.r, l)
	breaches, _ := wash.Audit(a.r, l)
	slops, _ := wash.Slops(a.r, l)
	second := slices.Clone(slops[1])
	spoil(residues, only(9))
	spoil(breaches, api.WashBreach{Event: 9})
	spoil(slops[0], 9)
	if !slices.Equal(slops[1], second) {
		t.Error("the slops share memory:", slops)
	}
	spoil(plan(a.r, a.tanks[0], a.jobs).washes, 9)
	spoil(fewest(a.r, a.tanks[0], a.jobs).washes, 9)
	spoil(fleet(a.r, a.tanks, a.jobs).steps, api.WashStep{Tank: 9})
	if !reflect.DeepEqual(a, goodArgs()) || !slices.Equal(replies(a), want) {
		t.Error("changed:", a)
	}
	if got := plan(a.r, a.tanks[0], a.jobs); !got.same(planned{washes: []int{1, -1}, cost: 90000}) {
		t.Error("again:", got)
	}
	if got := fleet(a.r, a.tanks, a.jobs); !got.same(sent{steps: steps(0, 1, 0, -1), cost: 90000}) {
		t.Error("again:", got)
	}
}
