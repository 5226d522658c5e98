package average_test

import (
	"math/rand"
	"slices"
	"testing"

	"thalweg/api"
)

const value, damage, sacrifice, expense = api.NoteValue, api.NoteDamage, api.NoteSacrifice, api.NoteExpense

// notes returns notes of triples: a kind, an interest and an amount.
func notes(l ...int) []api.Note {
	var all []api.Note
	for i := 0; i < len(l); i += 3 {
		all = append(all, note(api.NoteKind(l[i]), l[i+1], l[i+2]))
	}
	return all
}

// P8.2, P8.3: averages, as in the example, and each part of an account.
func TestAdjust(t *testing.T) {
	great := slices.Concat(slices.Repeat(notes(1, 0, 100000000000), 150), slices.Repeat(notes(1, 1, 100000000000), 50), slices.Repeat(notes(4, 1, 100000000000), 100))
	for _, c := range []struct {
		name                  string
		interests, commission int
		notes                 []api.Note
		want                  []api.Account
		total                 int
	}{
		{"the example", 3, 200, exampleNotes(), []api.Account{
			{Value: 600000, Good: 20400, Due: 42240, Balance: 21840}, {Value: 300000, Due: 21120, Balance: 21120}, {Value: 100000, Good: 50000, Due: 7040, Balance: -42960},
		}, 70400},
		{"nothing is shared", 2, 200, notes(1, 0, 5, 1, 1, 7), []api.Account{account(5, 0, 0), account(7, 0, 0)}, 0},
		{"an interest without notes", 3, 0, notes(1, 0, 100, 3, 2, 10, 1, 2, 100), []api.Account{account(100, 0, 5), account(0, 0, 0), account(100, 10, 5)}, 10},
		{"notes of a kind are added up", 1, 0, notes(1, 0, 5, 1, 0, 5, 1, 0, 7, 2, 0, 1, 2, 0, 1, 3, 0, 2, 3, 0, 3, 4, 0, 1, 4, 0, 4), []api.Account{account(15, 10, 10)}, 10},
		{"damage lessens what an interest contributes", 2, 0, notes(1, 0, 100, 2, 0, 50, 1, 1, 150, 4, 0, 20), []api.Account{account(50, 20, 5), account(150, 0, 15)}, 20},
		{"a sacrifice does not lessen it", 2, 0, notes(1, 0, 100, 3, 0, 60, 1, 1, 200), []api.Account{account(100, 60, 20), account(200, 0, 40)}, 60},
		{"an interest is lost, another one is saved", 2, 0, notes(1, 0, 100, 3, 0, 100, 1, 1, 100), []api.Account{account(100, 100, 50), account(100, 0, 50)}, 100},
		{"damage and sacrifice of all of an interest", 2, 0, notes(1, 0, 100, 2, 0, 60, 3, 0, 40, 1, 1, 40), []api.Account{account(40, 40, 20), account(40, 0, 20)}, 40},
		{"an interest of no worth pays for all", 2, 0, notes(4, 0, 30, 1, 1, 100), []api.Account{account(0, 30, 0), account(100, 0, 30)}, 30},
		{"the commission is rounded down", 1, 9999, notes(1, 0, 100, 4, 0, 1), []api.Account{account(100, 1, 1)}, 1},
		{"the commission of expenses that are added up", 1, 5000, notes(1, 0, 100, 4, 0, 1, 4, 0, 1), []api.Account{account(100, 3, 3)}, 3},
		{"the commission of each interest is rounded", 2, 5000, notes(1, 0, 100, 4, 0, 1, 4, 1, 1), []api.Account{account(100, 1, 2), account(0, 1, 0)}, 2},
		{"a commission as great as what was paid", 1, 10000, notes(1, 0, 100, 4, 0, 7), []api.Account{account(100, 14, 14)}, 14},
		{"no commission on what was sacrificed", 1, 10000, notes(1, 0, 100, 3, 0, 7), []api.Account{account(100, 7, 7)}, 7},
		{"shares are rounded like those of a split", 3, 0, notes(1, 0, 50, 1, 1, 50, 1, 2, 50, 4, 1, 100), []api.Account{account(50, 0, 33), account(50, 100, 33), account(50, 0, 34)}, 100},
		{"as much is shared as all is worth", 2, 0, notes(1, 0, 10, 1, 1, 5, 4, 1, 15), []api.Account{account(10, 0, 10), account(5, 15, 5)}, 15},
		{"numbers of more than 64 bits", 2, 3333, great, []api.Account{account(15e12, 0, 999975e7), account(5e12, 13333e9, 333325e7)}, 13333e9},
		{"as many interests as there can be", 40, 0, notes(1, 39, 9, 4, 39, 9), append(make([]api.Account, 39), account(9, 9, 9)), 9},
	} {
		if got := adjust(c.interests, c.commission, c.notes); !got.same(adjusted{l: c.want, total: c.total}) {
			t.Errorf("%s: %v, want %v, %d", c.name, got, c.want, c.total)
		}
	}
}

// P8.3: what cannot be shared, as in the example.
func TestAdjustStates(t *testing.T) {
	for _, c := range []struct {
		name                  string
		interests, commission int
		notes                 []api.Note
		want                  api.Errno
	}{
		{"no notes", 1, 0, nil, api.ErrState},
		{"a single interest is sacrificed", 1, 0, notes(1, 0, 100, 3, 0, 100), api.ErrState},
		{"a cent of it is saved", 1, 0, notes(1, 0, 100, 3, 0, 99), api.OK},
		{"all interests are sacrificed", 2, 0, notes(1, 0, 100, 3, 0, 100, 1, 1, 5, 3, 1, 5), api.ErrState},
		{"all that is left is damaged", 1, 0, notes(1, 0, 100, 2, 0, 100), api.ErrState},
		{"more is sacrificed than there is", 2, 0, notes(1, 0, 100, 3, 0, 101, 1, 1, 900), api.ErrState},
		{"more is damaged than there is", 2, 0, notes(1, 0, 100, 2, 0, 101, 1, 1, 900), api.ErrState},
		{"more is sacrificed than damage left", 2, 0, notes(1, 1, 100, 2, 1, 60, 3, 1, 41, 1, 0, 900), api.ErrState},
		{"damage without a value", 2, 0, notes(2, 1, 1, 1, 0, 900), api.ErrState},
		{"a sacrifice without a value", 2, 0, notes(3, 1, 1, 1, 0, 900), api.ErrState},
		{"what is saved of all is 0, with one below 0", 2, 0, notes(1, 0, 10, 2, 1, 10), api.ErrState},
		{"an expense saves nothing", 1, 0, notes(4, 0, 5), api.ErrState},
		{"not enough for the expense", 2, 0, notes(1, 0, 10, 1, 1, 5, 4, 1, 16), api.ErrOver},
		{"not enough for the commission", 2, 1000, notes(1, 0, 10, 1, 1, 5, 4, 1, 15), api.ErrOver},
		{"enough for the commission", 2, 600, notes(1, 0, 10, 1, 1, 5, 4, 1, 15), api.OK},
		{"sacrifice and expense together", 2, 0, notes(1, 0, 10, 3, 0, 9, 1, 1, 5, 4, 1, 7), api.ErrOver},
		{"damage makes all worth less", 1, 0, notes(1, 0, 10, 2, 0, 2, 4, 0, 9), api.ErrOver},
		{"a state comes before what is too much", 2, 0, notes(1, 0, 10, 3, 0, 11, 4, 1, 500), api.ErrState},
	} {
		if got := adjust(c.interests, c.commission, c.notes); got.e != c.want || got.e != api.OK && !got.same(adjusted{e: got.e}) {
			t.Errorf("%s: %v, want %d", c.name, got, c.want)
		}
	}
}

// P8.3: the first note with an error is told, and of its errors the one named first.
func TestAdjustNotes(t *testing.T) {
	good := note(value, 1, 100)
	for _, c := range []struct {
		name string
		l    []api.Note
		at   int
		e    api.Errno
	}{
		{"all kinds", notes(1, 1, 100, 2, 1, 1, 3, 1, 1, 4, 1, 1), 0, api.OK},
		{"the first note", []api.Note{note(0, 0, 1), good}, 0, api.ErrArg},
		{"the last note", []api.Note{good, good, note(5, 0, 1)}, 2, api.ErrArg},
		{"an interest that there is not", []api.Note{good, note(value, 2, 1)}, 1, api.ErrNone},
		{"an interest below 0", []api.Note{good, note(value, -1, 1)}, 1, api.ErrNone},
		{"no amount", []api.Note{good, note(value, 1, 0)}, 1, api.ErrRange},
		{"an amount below 0", []api.Note{good, note(damage, 1, -1)}, 1, api.ErrRange},
		{"an amount that is too great", []api.Note{good, note(expense, 1, 100000000001)}, 1, api.ErrRange},
		{"the kind comes before the interest", []api.Note{good, note(0, 2, 0)}, 1, api.ErrArg},
		{"the interest comes before the amount", []api.Note{good, note(value, 2, 0)}, 1, api.ErrNone},
		{"an amount, before the kind of the next note", []api.Note{good, note(value, 1, 0), note(0, 2, 0)}, 1, api.ErrRange},
		{"an interest, before the kind of the next note", []api.Note{good, note(value, 2, 1), note(0, 1, 1)}, 1, api.ErrNone},
		{"an amount, before the interest of the next note", []api.Note{note(value, 1, 0), note(value, 2, 1)}, 0, api.ErrRange},
		{"a note comes before the state", []api.Note{note(sacrifice, 1, 5), note(0, 1, 1)}, 1, api.ErrArg},
		{"a note comes before what is too much", []api.Note{good, note(expense, 1, 500), note(value, 1, 0)}, 2, api.ErrRange},
		{"the last note of as many as there can be", append(slices.Repeat([]api.Note{good}, 299), note(9, 1, 1)), 299, api.ErrArg},
	} {
		if got := adjust(2, 0, c.l); got.at != c.at || got.e != c.e || got.e != api.OK && !got.same(adjusted{at: c.at, e: c.e}) {
			t.Errorf("%s: %v, want %d at %d", c.name, got, c.e, c.at)
		}
	}
}

// cut returns notes of which one was cut into two, if it can be.
func cut(g *rand.Rand, l []api.Note) []api.Note {
	l = slices.Clone(l)
	i := g.Intn(len(l))
	if l[i].Amount == 1 || len(l) == api.MaxNotes {
		return l
	}
	part := l[i]
	part.Amount = 1 + g.Intn(l[i].Amount-1)
	l[i].Amount -= part.Amount
	return slices.Insert(l, g.Intn(len(l)+1), part)
}

// P8.2, P8.3, P8.8, P8.9: the same as interest by interest, in any order, and with notes that were cut; balances add up to 0, and nobody owes more than their Value.
func TestAdjustAgainstFractions(t *testing.T) {
	g := rand.New(rand.NewSource(2))
	seen := map[api.Errno]int{}
	for i := range 6000 {
		most := []int{4, 1000, api.MaxAmount}[i%3]
		interests, commission := 1+g.Intn(5), g.Intn(api.MaxParts+1)
		l := randomNotes(g, 1+g.Intn(40), interests, most)
		if i%100 == 0 {
			interests = api.MaxInterests
			l = randomNotes(g, api.MaxNotes, interests, most)
		}
		want := slowAdjust(interests, commission, l)
		seen[want.e]++
		for _, same := range [][]api.Note{l, shuffled(g, l), cut(g, l), cut(g, cut(g, shuffled(g, l)))} {
			if got := adjust(interests, commission, same); !got.same(want) {
				t.Fatalf("%d, %d, %v: %v, want %v", interests, commission, same, got, want)
			}
		}
		balance := 0
		for _, x := range adjust(interests, commission, l).l {
			balance += x.Balance
			if x.Due < 0 || x.Due > x.Value || x.Balance != x.Due-x.Good {
				t.Fatalf("%d, %d, %v: %v", interests, commission, l, x)
			}
		}
		if balance != 0 {
			t.Fatalf("%d, %d, %v: %d", interests, commission, l, balance)
		}
	}
	if seen[api.OK] < 1000 || seen[api.ErrState] < 300 || seen[api.ErrOver] < 100 {
		t.Error("too few cases:", seen)
	}
}
