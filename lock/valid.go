package lock

import (
	"thalweg/api"
	"thalweg/valid"
)

// validLock reports whether a lock is valid.
func validLock(l api.Lock) bool {
	return valid.Within(1, api.MaxChamber, l.Length) &&
		valid.Within(1, api.MaxCycle, l.Cycle) &&
		valid.Within(0, api.MaxCycle, l.Turn) &&
		validFill(l.Fill) &&
		valid.Within(0, api.MaxSave, l.Save)
}

// validFill reports whether a chamber can hold so much water.
func validFill(fill int) bool {
	return valid.Within(0, api.MaxFill, fill)
}

// validTow reports whether a tow can wait at a valid lock.
func validTow(t api.LockTow, l api.Lock) bool {
	return valid.Within(0, api.MaxLockMinute, t.Arrive) &&
		valid.Within(1, api.MaxLockParts*l.Length, t.Length) &&
		valid.Within(0, api.MaxLockWeight, t.Weight) &&
		valid.Within(0, api.MaxPush, t.Push)
}

// checkWaiting returns the error of a lock and tows.
func checkWaiting(l api.Lock, tows []api.LockTow) api.Errno {
	switch {
	case !validLock(l):
		return api.ErrArg
	case len(tows) > api.MaxLockTows:
		return api.ErrLong
	case !valid.Every(tows, func(t api.LockTow) bool { return validTow(t, l) }):
		return api.ErrArg
	}
	return api.OK
}

// validReach reports whether a chain can have a reach.
func validReach(r api.LockReach) bool {
	return valid.Within(0, api.MaxReachVolume, r.Volume, r.Least) && valid.Bounds(r.Inflow, 0, api.MaxReachVolume)
}

// validTraffic reports whether a chain can have a lock.
func validTraffic(t api.LockTraffic) bool {
	return validFill(t.Fill) && valid.Bounds(t.Cycles, 0, api.MaxDayCycles)
}

// checkChain returns the error of a chain that is followed for some days.
func checkChain(reaches []api.LockReach, locks []api.LockTraffic, days int) api.Errno {
	switch {
	case len(reaches) > api.MaxLockReaches:
		return api.ErrLong
	case len(reaches) == 0 || len(locks) != len(reaches)-1:
		return api.ErrForm
	case !valid.Every(reaches, validReach) || !valid.Every(locks, validTraffic):
		return api.ErrArg
	case !valid.Within(0, api.MaxLockDays, days):
		return api.ErrRange
	}
	return api.OK
}
