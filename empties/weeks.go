package empties

import (
	"slices"

	"thalweg/api"
)

// departures returns how often hulls can leave in the weeks of a plan so that they arrive in one of them.
func departures(w api.EmptyWeeks) int {
	weeks := len(w.Weeks)
	sum := (weeks - 1) * len(w.Keep)
	for _, x := range w.Ways {
		if hasWeeks(x) {
			sum += max(weeks-x.Weeks, 0)
		}
	}
	return sum
}

// keeping returns what it is to keep a hull in each port: ways that take one week and lead to where they begin.
func keeping(costs ...int) []api.WeekWay {
	var ways []api.WeekWay
	for port, cost := range costs {
		ways = append(ways, api.WeekWay{EmptyWay: api.EmptyWay{From: port, To: port, Cost: cost, Room: api.MaxEmptyHulls}, Weeks: 1})
	}
	return ways
}

// netOf returns the net of a valid plan.
func netOf(w api.EmptyWeeks) api.EmptyNet {
	n := api.EmptyNet{Ports: slices.Concat(w.Weeks...)}
	ports, ways := len(w.Keep), append(keeping(w.Keep...), w.Ways...)
	for week := range len(w.Weeks) {
		for _, x := range ways {
			if arrival := week + x.Weeks; arrival < len(w.Weeks) {
				x.From += week * ports
				x.To += arrival * ports
				n.Ways = append(n.Ways, x.EmptyWay)
			}
		}
	}
	return n
}
