package wash

import (
	"cmp"

	"thalweg/api"
	"thalweg/valid"
)

// noWash stands for no cleaning, where the kind of one could be.
const noWash = -1

// unless returns an error unless a condition holds.
func unless(holds bool, e api.Errno) api.Errno {
	if holds {
		return api.OK
	}
	return e
}

// validRules reports whether rules are valid.
func validRules(r api.WashRules) bool {
	n := len(r.Levels)
	return valid.Within(1, api.MaxCargoKinds, n) &&
		validResidues(r.Levels...) &&
		validTable(r.Allow, n, api.MaxResidue) &&
		validTable(r.Apart, n, api.MaxApart) &&
		len(r.Kinds) <= api.MaxWashKinds &&
		validReduction(r.Fade) &&
		valid.Every(r.Kinds, validKind)
}

// validResidues reports whether all numbers can be residues.
func validResidues(numbers ...int) bool {
	return valid.Within(0, api.MaxResidue, numbers...)
}

// validReduction reports whether residues can be reduced by a number within bounds.
func validReduction(b api.Bounds) bool {
	return valid.Bounds(b, 0, api.MaxResidue)
}

// validTable reports whether a table has n lists of n numbers from 0 to most.
func validTable(table [][]int, n, most int) bool {
	return len(table) == n && valid.Every(table, func(row []int) bool {
		return len(row) == n && valid.Within(0, most, row...)
	})
}

// validKind reports whether rules can have a kind of cleaning.
func validKind(k api.WashKind) bool {
	return validReduction(k.Power) &&
		valid.Within(0, api.MaxWashMinutes, k.Minutes) &&
		valid.Within(0, api.MaxWashWater, k.Water) &&
		valid.Within(0, api.MaxWashCost, k.Cost)
}

// hasCargo reports whether rules have a cargo.
func hasCargo(r api.WashRules, cargo int) bool {
	return valid.Within(0, len(r.Levels)-1, cargo)
}

// hasKind reports whether rules have a kind of cleaning.
func hasKind(r api.WashRules, kind int) bool {
	return valid.Within(0, len(r.Kinds)-1, kind)
}

// validEvent reports whether an event is valid, with rules.
func validEvent(r api.WashRules, x api.TankEvent) bool {
	switch x.Kind {
	case api.TankLoad:
		return hasCargo(r, x.Number)
	case api.TankWash:
		return hasKind(r, x.Number)
	}
	return false
}

// checkHistory returns the error of a history.
func checkHistory(r api.WashRules, l []api.TankEvent) api.Errno {
	switch {
	case len(l) > api.MaxTankEvents:
		return api.ErrLong
	case !valid.Every(l, func(x api.TankEvent) bool { return validEvent(r, x) }):
		return api.ErrArg
	}
	return api.OK
}

// checkTank returns the error of rules and a history.
func checkTank(r api.WashRules, l []api.TankEvent) api.Errno {
	return cmp.Or(Check(r), checkHistory(r, l))
}

// checkTanks returns the error of a number of tanks, and then that of the first history that has one.
func checkTanks(r api.WashRules, tanks [][]api.TankEvent) api.Errno {
	switch {
	case len(tanks) > api.MaxFleetTanks:
		return api.ErrLong
	case len(tanks) == 0:
		return api.ErrForm
	}
	for _, l := range tanks {
		if e := checkHistory(r, l); e != api.OK {
			return e
		}
	}
	return api.OK
}

// checkJobs returns the error of cargoes of which there are at most so many.
func checkJobs(r api.WashRules, jobs []int, most int) api.Errno {
	switch {
	case len(jobs) > most:
		return api.ErrLong
	case !valid.Every(jobs, func(cargo int) bool { return hasCargo(r, cargo) }):
		return api.ErrArg
	}
	return api.OK
}

// checkFleet returns the error of rules, tanks and cargoes.
func checkFleet(r api.WashRules, tanks [][]api.TankEvent, jobs []int) api.Errno {
	return cmp.Or(Check(r), checkTanks(r, tanks), checkJobs(r, jobs, api.MaxFleetJobs))
}

// checkSteps returns the error of steps for tanks and cargoes.
func checkSteps(r api.WashRules, tanks [][]api.TankEvent, jobs []int, steps []api.WashStep) api.Errno {
	switch {
	case len(steps) != len(jobs):
		return api.ErrForm
	case !valid.Every(steps, func(s api.WashStep) bool {
		return valid.Within(0, len(tanks)-1, s.Tank) && (s.Wash == noWash || hasKind(r, s.Wash))
	}):
		return api.ErrArg
	}
	return api.OK
}
