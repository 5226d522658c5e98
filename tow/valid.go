package tow

import (
	"thalweg/api"
	"thalweg/valid"
)

// validHull reports whether a tow can have a hull, or a boat.
func validHull(h api.TowHull) bool {
	return valid.Within(1, api.MaxHullLength, h.Length) &&
		valid.Within(1, api.MaxHullWidth, h.Width) &&
		valid.Within(0, api.MaxHullMass, h.Mass)
}

// validTow reports whether a tow is valid.
func validTow(t api.Tow) bool {
	return validHull(t.Boat) &&
		validPower(t.Power) &&
		len(t.Rows) <= api.MaxTowRows &&
		valid.Every(t.Rows, validRow) &&
		hullsOf(t.Rows...) <= api.MaxTowHulls
}

// validRow reports whether hulls can be a row of a tow.
func validRow(row []api.TowHull) bool {
	return valid.Within(1, api.MaxAbreast, len(row)) && valid.Every(row, validHull)
}

// validPower reports whether a boat can have a power.
func validPower(power int) bool {
	return valid.Within(1, api.MaxPower, power)
}

// validPush reports whether the screws of a boat can hold a tow back.
func validPush(mass, power int, grip api.Bounds) bool {
	return valid.Within(0, api.MaxTowMass, mass) && validPower(power) && valid.Bounds(grip, 1, api.MaxGrip)
}

// validVoyage reports whether a voyage is valid.
func validVoyage(v api.Voyage) bool {
	return valid.Bounds(v.Start, 0, api.MaxMinute) &&
		valid.Within(1, api.MaxRuns, len(v.Runs)) &&
		valid.Every(v.Runs, func(r api.Run) bool { return validRun(r) && down(r) == down(v.Runs[0]) }) &&
		joined(v.Runs...) &&
		valid.Within(1, api.MaxTowLength, v.Length) &&
		validWidth(v.Width)
}

// validRun reports whether a voyage can have a run.
func validRun(r api.Run) bool {
	return valid.Within(0, api.MaxPlace, r.From, r.To) && r.From != r.To &&
		valid.Bounds(r.Speed, 1, api.MaxSpeed) &&
		valid.Bounds(r.Wait, 0, api.MaxWait)
}

// joined reports whether each run begins where the one before it ends.
func joined(runs ...api.Run) bool {
	for i, r := range runs {
		if i > 0 && r.From != runs[i-1].To {
			return false
		}
	}
	return true
}

// validWidth reports whether a tow, or a narrow, can have a width.
func validWidth(width int) bool {
	return valid.Within(1, api.MaxTowWidth, width)
}

// validNarrow reports whether a narrow is valid.
func validNarrow(n api.Narrow) bool {
	return valid.Within(0, api.MaxPlace, n.From, n.To) && n.From < n.To && validWidth(n.Width)
}

// validHold reports whether voyages may be held back by at most so many minutes.
func validHold(most int) bool {
	return valid.Within(0, api.MaxWait, most)
}
