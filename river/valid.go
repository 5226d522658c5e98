package river

import (
	"slices"

	"thalweg/api"
)

// within reports whether all numbers are from low to high.
func within(low, high int, numbers ...int) bool {
	return every(numbers, func(n int) bool { return low <= n && n <= high })
}

// every reports whether a condition holds for all elements of a list.
func every[T any](list []T, holds func(T) bool) bool {
	return !slices.ContainsFunc(list, func(x T) bool { return !holds(x) })
}

// valid reports whether bounds are valid from low to high.
func valid(b api.Bounds, low, high int) bool {
	return b.Low <= b.High && within(low, high, b.Low, b.High)
}

// validReach reports whether a valid river can have a reach.
func validReach(x api.Reach) bool {
	return within(1, api.MaxLength, x.Length) &&
		within(0, api.MaxDelay, x.Delay) &&
		validSide(x.Base) &&
		validCurve(x.Curve) &&
		within(0, api.MaxLevel, x.Weir, x.Flood) &&
		valid(x.Bottom, 0, api.MaxLevel)
}

// validCurve reports whether rows are a rating curve.
func validCurve(rows []api.RateRow) bool {
	if !within(2, api.MaxCurve, len(rows)) {
		return false
	}
	for i, x := range rows {
		if !within(0, api.MaxSide, x.Flow) || !within(0, api.MaxLevel, x.Level) {
			return false
		}
		if i > 0 && (x.Flow <= rows[i-1].Flow || x.Level < rows[i-1].Level) {
			return false
		}
	}
	return true
}

// validShoal reports whether a valid river with so many places can have a shoal.
func validShoal(s api.Shoal, length int) bool {
	return within(0, length-1, s.Place) &&
		valid(s.Bed, 0, api.MaxLevel) &&
		within(-api.MaxRiverHours, api.MaxRiverHours, s.Sounded) &&
		valid(s.Grow, -api.MaxShift, api.MaxShift)
}

// validSide reports whether so much water can flow into a reach.
func validSide(b api.Bounds) bool {
	return valid(b, 0, api.MaxSide)
}

// checkForecast returns the first error of a river and a forecast for it.
func checkForecast(r api.River, sides [][]api.Bounds) api.Errno {
	if e := Check(r); e != api.OK {
		return e
	}
	if len(sides) != len(r.Reaches) {
		return api.ErrForm
	}
	hours := len(sides[0])
	if hours == 0 || !every(sides, func(l []api.Bounds) bool { return len(l) == hours }) {
		return api.ErrForm
	}
	if hours > api.MaxRiverHours {
		return api.ErrLong
	}
	if !every(sides, func(l []api.Bounds) bool { return every(l, validSide) }) {
		return api.ErrArg
	}
	return api.OK
}

// validCatch reports whether land can drain into a reach.
func validCatch(c api.Catch) bool {
	return within(0, api.MaxArea, c.Area) &&
		within(0, 100, c.Percent) &&
		within(0, api.MaxMelt, c.Melt) &&
		valid(c.Snow, 0, api.MaxSnow)
}

// validSky reports whether an hour can be in the forecast of a sky.
func validSky(x api.SkyHour) bool {
	return valid(x.Rain, 0, api.MaxRain) && valid(x.Heat, -api.MaxHeat, api.MaxHeat)
}

// validClosure reports whether a river with so many places can have a closure.
func validClosure(c api.Closure, length int) bool {
	return within(0, length-1, c.From, c.To) && c.From <= c.To &&
		valid(c.Begin, -api.MaxRiverHours, 2*api.MaxRiverHours) &&
		valid(c.End, -api.MaxRiverHours, 2*api.MaxRiverHours)
}
