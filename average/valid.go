package average

import (
	"thalweg/api"
	"thalweg/valid"
	"thalweg/whole"
)

// validSums reports whether all numbers can be sums, or weights.
func validSums(numbers ...int) bool {
	return valid.Within(0, api.MaxSum, numbers...)
}

// validParts reports whether all numbers can be ten-thousandths.
func validParts(numbers ...int) bool {
	return valid.Within(0, api.MaxParts, numbers...)
}

// checkSplit returns the error of a sum and weights.
func checkSplit(n int, weights []int) api.Errno {
	switch {
	case len(weights) > api.MaxSplit:
		return api.ErrLong
	case !validSums(n):
		return api.ErrRange
	case !validSums(weights...) || whole.Total(weights...) == 0:
		return api.ErrArg
	}
	return api.OK
}

// checkAverage returns the error of a general average, before its notes are looked at.
func checkAverage(interests, commission int, notes []api.Note) api.Errno {
	switch {
	case !valid.Within(1, api.MaxInterests, interests) || !validParts(commission):
		return api.ErrRange
	case len(notes) > api.MaxNotes:
		return api.ErrLong
	}
	return api.OK
}

// checkNote returns the error of a note, with so many interests.
func checkNote(x api.Note, interests int) api.Errno {
	switch {
	case !valid.Within(int(api.NoteValue), int(api.NoteExpense), int(x.Kind)):
		return api.ErrArg
	case !valid.Within(0, interests-1, x.Interest):
		return api.ErrNone
	case !valid.Within(1, api.MaxAmount, x.Amount):
		return api.ErrRange
	}
	return api.OK
}

// checkBlame returns the error of the parties of a collision.
func checkBlame(losses, faults, limits []int) api.Errno {
	n := len(losses)
	switch {
	case !valid.Within(1, api.MaxBlamed, n) || len(faults) != n || len(limits) != n:
		return api.ErrForm
	case !valid.Within(0, api.MaxAmount, losses...) || !validParts(faults...) || !validSums(limits...):
		return api.ErrRange
	case whole.Total(faults...) == 0:
		return api.ErrArg
	}
	return api.OK
}

// checkTank returns the error of soundings and bunkers.
func checkTank(l []api.Sounding, b []api.Bunker) api.Errno {
	switch {
	case len(l) > api.MaxSoundings || len(b) > api.MaxSoundings:
		return api.ErrLong
	case len(l) == 0:
		return api.ErrForm
	case !validSoundings(l) || !valid.Every(b, validBunker):
		return api.ErrArg
	}
	return api.OK
}

// validSoundings reports whether soundings are valid, if there are not too many.
func validSoundings(l []api.Sounding) bool {
	for i, x := range l {
		if !valid.Within(0, api.MaxMinute, x.Minute) || !valid.Bounds(x.Liters, 0, api.MaxFuel) {
			return false
		}
		if i > 0 && x.Minute <= l[i-1].Minute {
			return false
		}
	}
	return true
}

// validBunker reports whether a bunker is valid.
func validBunker(b api.Bunker) bool {
	return valid.Within(0, api.MaxMinute, b.Minute) && valid.Within(1, api.MaxFuel, b.Liters)
}

// validTariff reports whether a tariff is valid.
func validTariff(t api.Tariff) bool {
	return valid.Within(0, api.MaxTariff, t.Base, t.Tons, t.Length) &&
		valid.Within(0, api.MaxDues, t.Passes) &&
		validParts(t.Off) &&
		validSums(t.Most)
}

// checkDues returns the error of dues, before the passes are looked at.
func checkDues(t api.Tariff, payers int, passes []api.DuePass) api.Errno {
	switch {
	case !validTariff(t):
		return api.ErrArg
	case !valid.Within(1, api.MaxPayers, payers):
		return api.ErrRange
	case len(passes) > api.MaxDues:
		return api.ErrLong
	}
	return api.OK
}

// checkPass returns the error of a pass, with so many payers.
func checkPass(x api.DuePass, payers int) api.Errno {
	switch {
	case !valid.Within(0, payers-1, x.Payer):
		return api.ErrNone
	case !valid.Within(0, api.MaxDueTons, x.Tons) || !valid.Within(0, api.MaxDueLength, x.Length):
		return api.ErrArg
	}
	return api.OK
}
