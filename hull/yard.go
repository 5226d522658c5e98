package hull

import (
	"slices"

	"thalweg/api"
)

// build returns a hull of sections, as new memory.
func build(lot int, sections ...api.HullSection) api.Hull {
	h := api.Hull{Lot: lot}
	for _, x := range sections {
		x.Curve, x.Holds = slices.Clone(x.Curve), slices.Clone(x.Holds)
		h.Sections = append(h.Sections, x)
	}
	return h
}

// yearsOf returns how many years a plate lasts.
func yearsOf(x api.HullPlate, least int) api.Bounds {
	return api.Bounds{Low: yearsAt(x.Thick.Low-least, x.Wear.High), High: yearsAt(x.Thick.High-least, x.Wear.Low)}
}

// yearsAt returns how many years a plate lasts of which so much may wear off, with so much a year.
func yearsAt(spare, wear int) int {
	if spare < 0 {
		return -1
	}
	if wear == 0 {
		return api.MaxHullYears
	}
	return min(spare/wear, api.MaxHullYears)
}
