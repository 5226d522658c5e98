package empties_test

import (
	"math/rand"
	"reflect"
	"slices"
	"testing"

	"thalweg/api"
	"thalweg/cases"
	"thalweg/empties"
)

// args are the arguments of all functions.
type args struct {
	n             api.EmptyNet
	moves, prices []int
	port          int
	weeks         api.EmptyWeeks
}

// goodArgs have no error.
func goodArgs() args {
	return args{example(), []int{3, 4, 0}, []int{0, 150, 200}, 1, twoWeeks()}
}

// reply is the error of a call, whether all its other results are zero values, and whether it takes a net.
type reply struct {
	name            string
	e               api.Errno
	empty, takesNet bool
}

// replies calls all functions but Check.
func replies(a args) []reply {
	c, b, m := cost(a.n, a.moves), bound(a.n, a.prices), more(a.n, a.port)
	best, p, l := move(a.n), proves(a.n, a.moves, a.prices), lacks(a.n)
	n, e := empties.Expand(a.weeks)
	return []reply{
		{"Cost", c.e, c.n == 0, true}, {"Bound", b.e, b.n == 0, true}, {"Move", best.e, best.same(moved{e: best.e}), true},
		{"Proves", p.e, !p.proves, true}, {"Lacks", l.e, l.same(lacking{e: l.e}), true}, {"More", m.e, m.n == 0, true},
		{"Expand", e, len(n.Ports)+len(n.Ways) == 0, false},
	}
}

// wrong reports whether something comes with an error.
func (x reply) wrong() bool { return x.e != api.OK && !x.empty }

// errorsOf returns the errors of replies.
func errorsOf(l []reply) []api.Errno {
	var errors []api.Errno
	for _, x := range l {
		errors = append(errors, x.e)
	}
	return errors
}

// wantNothingBesideErrors fails if a function returns a result beside an error.
func wantNothingBesideErrors(t *testing.T, l []reply) {
	t.Helper()
	for _, x := range l {
		if x.wrong() {
			t.Errorf("a result beside an error: %v", x)
		}
	}
}

// R1: the errors, in the order in which they are listed.
func TestOrderOfErrors(t *testing.T) {
	bad := example()
	bad.Ways[2].To = 0
	best, high := []int{3, 4, 0}, []int{0, 150, 200}
	const ok, arg, form, none, out, full, state = api.OK, api.ErrArg, api.ErrForm, api.ErrNone, api.ErrRange, api.ErrFull, api.ErrState
	for _, c := range []struct {
		name                                   string
		a                                      args
		cost, bound, move, proves, lacks, more api.Errno
	}{
		{"nothing is wrong", args{n: example(), moves: best, prices: high}, ok, ok, ok, ok, ok, ok},
		{"the net, before all else", args{n: bad, moves: []int{-1}, prices: []int{-1}, port: 7}, arg, arg, arg, arg, arg, arg},
		{"the net, before what would be right", args{n: bad, moves: best, prices: high}, arg, arg, arg, arg, arg, arg},
		{"no net", args{}, arg, arg, arg, arg, arg, arg},
		{"too few moves, before their rooms", args{n: example(), moves: []int{-1, 9}, prices: high}, form, ok, ok, form, ok, ok},
		{"too many moves, before their rooms", args{n: example(), moves: []int{-1, 9, 9, 9}, prices: high}, form, ok, ok, form, ok, ok},
		{"the rooms, before what is possible", args{n: example(), moves: []int{4, 0, 0}, prices: high}, out, ok, ok, out, ok, ok},
		{"moves that are not possible", args{n: example(), moves: []int{3, 0, 0}, prices: high}, state, ok, ok, state, ok, ok},
		{"the form of moves, before prices", args{n: example(), prices: []int{-1, 0, 0}}, form, out, ok, form, ok, ok},
		{"the rooms, before prices", args{n: example(), moves: []int{4, 0, 0}, prices: []int{1}}, out, form, ok, out, ok, ok},
		{"what is possible, before prices", args{n: example(), moves: []int{3, 0, 0}, prices: []int{1}}, state, form, ok, state, ok, ok},
		{"too few prices, before what they are", args{n: example(), moves: best, prices: []int{-1, 0}}, ok, form, ok, form, ok, ok},
		{"too many prices, before what they are", args{n: example(), moves: best, prices: []int{-1, 0, 0, 0}}, ok, form, ok, form, ok, ok},
		{"what prices are", args{n: example(), moves: best, prices: []int{0, 0, -1}}, ok, out, ok, out, ok, ok},
		{"a port that is not there, before what is possible", args{n: wanting(7, 9), moves: best, prices: high, port: 3}, state, ok, none, state, ok, none},
		{"a port that is full, before what is possible", args{n: with(wanting(20, 1), 0, 995, 0), moves: best, prices: high}, state, ok, none, state, ok, full},
		{"nothing is possible", args{n: wanting(7, 9), moves: best, prices: high}, state, ok, none, state, ok, state},
	} {
		c.a.weeks = twoWeeks()
		l := replies(c.a)
		want := []api.Errno{c.cost, c.bound, c.move, c.proves, c.lacks, c.more, ok}
		if got := errorsOf(l); !slices.Equal(got, want) {
			t.Errorf("%s: %v, want %v", c.name, got, want)
		}
		wantNothingBesideErrors(t, l)
	}
}

// P1: all functions return, whatever their arguments are.
func TestExtremes(t *testing.T) {
	for _, a := range cases.Extremes() {
		for _, b := range cases.Extremes() {
			wild := api.EmptyNet{Ports: []api.EmptyPort{port(a, b), port(b, a)}, Ways: []api.EmptyWay{way(a, b, b, a), way(0, 1, a, b)}}
			weeks := api.EmptyWeeks{Weeks: [][]api.EmptyPort{{port(a, b), port(1, 1)}, {port(b, a), port(1, 1)}}, Ways: []api.WeekWay{weekWay(a, b, b, a, b), weekWay(0, 1, a, b, a), weekWay(0, 1, 1, 1, a)}, Keep: []int{a, b}}
			calm := twoWeeks()
			calm.Ways[0].Weeks = a
			for _, n := range []api.EmptyNet{wild, example(), {Ports: wild.Ports}, {Ports: example().Ports, Ways: wild.Ways[:1]}, {Ways: wild.Ways}} {
				wantNothingBesideErrors(t, replies(args{n, []int{a, b, 0}, []int{b, a, 0}, a, weeks}))
				wantNothingBesideErrors(t, replies(args{n, []int{a, b}, []int{b, a}, b, calm}))
			}
		}
	}
	wantNothingBesideErrors(t, replies(args{}))
}

// P1, R2: with arguments that are valid, or not, no result comes with an error.
func TestNothingBesideErrors(t *testing.T) {
	g := rand.New(rand.NewSource(12))
	seen := map[api.Errno]bool{}
	for range 3000 {
		n := randomNet(g, small)
		w := randomWeeks(g, 13, 6)
		a := args{n, randomList(g, len(n.Ways)+g.Intn(9)/8, 3), randomList(g, len(n.Ports)+g.Intn(9)/8, 9), g.Intn(5) - 1, w}
		switch g.Intn(9) {
		case 0:
			a.n.Ports[0].Has = g.Intn(3000) - 1000
		case 1:
			a.n.Ports[0].Has = 1000
		case 2:
			a.prices[0] = -1
		}
		l := replies(a)
		wantNothingBesideErrors(t, l)
		for _, x := range l {
			seen[x.e] = true
		}
	}
	for _, e := range []api.Errno{api.OK, api.ErrArg, api.ErrRange, api.ErrForm, api.ErrLong, api.ErrNone, api.ErrFull, api.ErrState} {
		if !seen[e] {
			t.Error("no error", e)
		}
	}
}

// R3: nil and empty lists are the same.
func TestNilAndEmpty(t *testing.T) {
	ports := []api.EmptyPort{port(3, 2), port(1, 1)}
	ok := slices.Repeat([]api.Errno{api.OK}, 7)
	for _, ways := range [][]api.EmptyWay{nil, {}} {
		for _, moves := range [][]int{nil, {}} {
			for _, weekWays := range [][]api.WeekWay{nil, {}} {
				a := args{api.EmptyNet{Ports: ports, Ways: ways}, moves, []int{0, 1}, 0, api.EmptyWeeks{Weeks: [][]api.EmptyPort{ports}, Ways: weekWays, Keep: []int{1, 1}}}
				if got := errorsOf(replies(a)); !slices.Equal(got, ok) {
					t.Error("no ways:", got)
				}
				if got := move(a.n); !got.same(moved{prices: []int{0, 0}}) {
					t.Error("no ways:", got)
				}
				if n, e := empties.Expand(a.weeks); !sameNet(n, a.n) || e != api.OK {
					t.Error("no ways:", n, e)
				}
			}
		}
	}
	for _, ports := range [][]api.EmptyPort{nil, {}} {
		wantNet(t, "no ports", api.EmptyNet{Ports: ports}, false)
	}
	for _, weeks := range [][][]api.EmptyPort{nil, {}, {nil}, {{}}} {
		for _, keep := range [][]int{nil, {}} {
			wantExpand(t, "no weeks, or no ports", api.EmptyWeeks{Weeks: weeks, Keep: keep}, api.ErrForm)
		}
	}
}

// cloneArgs returns arguments as new memory.
func cloneArgs(a args) args {
	return args{cloneNet(a.n), slices.Clone(a.moves), slices.Clone(a.prices), a.port, cloneWeeks(a.weeks)}
}

// R4: no argument is changed, also not behind the end of a list.
func TestArgumentsAreKept(t *testing.T) {
	whole := goodArgs()
	whole.weeks.Ways = append(whole.weeks.Ways, weekWay(1, 0, 3, 3, 1))
	same := cloneArgs(whole)
	replies(whole)
	part := whole
	part.n.Ways, part.weeks.Ways = whole.n.Ways[:1], whole.weeks.Ways[:1]
	part.moves = whole.moves[:1]
	replies(part)
	part.n.Ports, part.n.Ways = whole.n.Ports[:1], nil
	part.prices, part.moves = whole.prices[:1], nil
	part.weeks.Weeks = [][]api.EmptyPort{whole.weeks.Weeks[0][:1], whole.weeks.Weeks[1][:1]}
	part.weeks.Keep, part.weeks.Ways = whole.weeks.Keep[:1], nil
	for _, x := range replies(part) {
		if x.e != api.OK && x.name != "More" {
			t.Error(x)
		}
	}
	if !reflect.DeepEqual(whole, same) {
		t.Error("changed:", whole)
	}
}

// R4: what is written into a result is not seen in an argument, nor in another result.
func TestResultsAreNew(t *testing.T) {
	a := goodArgs()
	m, l, n := move(a.n), lacks(wanting(8, 9)), netOf(t, a.weeks)
	prices := slices.Clone(m.prices)
	cases.Spoil(m.moves, 9)
	if !slices.Equal(m.prices, prices) {
		t.Error("moves and prices share memory:", m)
	}
	cases.Spoil(m.prices, 9)
	cases.Spoil(l.ports, 9)
	cases.Spoil(n.Ports, port(9, 9))
	cases.Spoil(n.Ways, way(9, 9, 9, 9))
	if !reflect.DeepEqual(a, goodArgs()) {
		t.Error("changed:", a)
	}
	wantProven(t, a.n)
	if got := lacks(wanting(8, 9)); !got.same(lacking{ports: []int{0, 1, 2}, lack: 2}) {
		t.Error("again:", got)
	}
}
