package average

import (
	"thalweg/api"
	"thalweg/valid"
	"thalweg/whole"
)

// sums are the sums of the notes of an interest, by their kinds. No kind is 0.
type sums [api.NoteExpense + 1]int

// worth returns the value of an interest when it arrived, with what was sacrificed of it.
func (s sums) worth() int { return s[api.NoteValue] - s[api.NoteDamage] }

// saved returns with what an interest is saved.
func (s sums) saved() int { return s.worth() - s[api.NoteSacrifice] }

// good returns what is made good to an interest.
func (s sums) good(commission int) int {
	return s[api.NoteSacrifice] + s[api.NoteExpense] + parts(s[api.NoteExpense], commission)
}

// losses are what a general average shares: what each interest is worth, with what it is saved, and what is made good to it.
type losses struct {
	worth, saved, good []int
}

// newLosses adds up valid notes.
func newLosses(interests, commission int, notes []api.Note) losses {
	all := make([]sums, interests)
	for _, x := range notes {
		all[x.Interest][x.Kind] += x.Amount
	}
	return losses{
		each(all, sums.worth),
		each(all, sums.saved),
		each(all, func(s sums) int { return s.good(commission) }),
	}
}

// total returns the sum that is shared.
func (l losses) total() int { return whole.Total(l.good...) }

// check returns the error of losses that cannot be shared.
func (l losses) check() api.Errno {
	switch {
	case !valid.Every(l.saved, func(n int) bool { return n >= 0 }) || whole.Total(l.saved...) == 0:
		return api.ErrState
	case l.total() > whole.Total(l.worth...):
		return api.ErrOver
	}
	return api.OK
}

// accounts returns the accounts of all interests.
func (l losses) accounts() []api.Account {
	accounts := make([]api.Account, len(l.worth))
	for i, due := range shares(l.total(), l.worth) {
		accounts[i] = api.Account{Value: l.worth[i], Good: l.good[i], Due: due, Balance: due - l.good[i]}
	}
	return accounts
}
