package hull

import (
	"thalweg/api"
	"thalweg/valid"
)

// validHull reports whether a hull is valid.
func validHull(h api.Hull) bool {
	return valid.Within(1, api.MaxLot, h.Lot) &&
		valid.Within(1, api.MaxSections, len(h.Sections)) &&
		valid.Every(h.Sections, validSection) &&
		lengthOf(h.Sections...) <= api.MaxHullLength &&
		holdsOf(h.Sections...) <= api.MaxHullHolds
}

// validSection reports whether a valid hull can have a section.
func validSection(x api.HullSection) bool {
	return valid.Within(1, api.MaxSectionLength, x.Length) &&
		valid.Within(0, api.MaxLight, x.Light) &&
		valid.Within(1, api.MaxTrim, x.Trim) &&
		validCurve(x.Curve) &&
		valid.Every(x.Holds, func(y api.HullHold) bool {
			return valid.Within(0, x.Length, y.At) && valid.Within(0, api.MaxHoldLots, y.Lots)
		})
}

// validCurve reports whether rows are the curve of a section.
func validCurve(rows []api.HullRow) bool {
	if !valid.Within(2, api.MaxHullRows, len(rows)) || rows[0] != (api.HullRow{}) {
		return false
	}
	for i, x := range rows[1:] {
		before := rows[i]
		if x.Draft <= before.Draft || x.Volume <= before.Volume {
			return false
		}
	}
	last := rows[len(rows)-1]
	return last.Draft <= api.MaxDraft && last.Volume <= api.MaxHullVolume
}

// lengthOf returns how long sections are in all.
func lengthOf(sections ...api.HullSection) int {
	length := 0
	for _, x := range sections {
		length += x.Length
	}
	return length
}

// holdsOf returns how many holds sections have in all.
func holdsOf(sections ...api.HullSection) int {
	n := 0
	for _, x := range sections {
		n += len(x.Holds)
	}
	return n
}

// validDensity reports whether water can have a density.
func validDensity(density api.Bounds) bool {
	return valid.Bounds(density, api.MinDensity, api.MaxDensity)
}

// validPlate reports whether a hull can have a plate.
func validPlate(x api.HullPlate) bool {
	return valid.Bounds(x.Thick, 0, api.MaxThick) && valid.Bounds(x.Wear, 0, api.MaxWear)
}
