package tow

import (
	"thalweg/api"
	"thalweg/valid"
	"thalweg/whole"
)

// down reports whether a run goes down; all runs of a voyage go as its first one does.
func down(r api.Run) bool {
	return r.From < r.To
}

// ends returns where a voyage begins and ends.
func ends(v api.Voyage) (first, last int) {
	return v.Runs[0].From, v.Runs[len(v.Runs)-1].To
}

// onWay reports whether all places are on the way of a voyage.
func onWay(v api.Voyage, places ...int) bool {
	first, last := ends(v)
	return valid.Within(min(first, last), max(first, last), places...)
}

// arrive returns when the bow is first at a place on the way of a valid voyage.
func arrive(v api.Voyage, place int) api.Bounds {
	at := v.Start
	if first, _ := ends(v); place == first {
		return at
	}
	for _, r := range v.Runs {
		left, run := distance(r.From, place), distance(r.From, r.To)
		at = after(at, r, min(left, run))
		if left <= run {
			break
		}
	}
	return at
}

// distance returns how far two places are from each other.
func distance(a, b int) int {
	return max(a-b, b-a)
}

// after returns when the bow is so many hectometers further in a run that begins in some minute.
func after(begin api.Bounds, r api.Run, way int) api.Bounds {
	// The faster the tow is, the earlier it is there.
	sail := api.Bounds{Low: whole.Up(60*way, r.Speed.High), High: whole.Up(60*way, r.Speed.Low)}
	return whole.Sum(begin, r.Wait, sail)
}
