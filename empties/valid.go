package empties

import (
	"slices"

	"thalweg/api"
	"thalweg/valid"
)

// validNet reports whether a net is valid.
func validNet(n api.EmptyNet) bool {
	return valid.Within(1, api.MaxEmptyPorts, len(n.Ports)) &&
		len(n.Ways) <= api.MaxEmptyWays &&
		validPorts(n.Ports...) &&
		validWays(len(n.Ports), n.Ways...)
}

// validPorts reports whether a net can have all these ports.
func validPorts(ports ...api.EmptyPort) bool {
	return valid.Every(ports, func(p api.EmptyPort) bool {
		return valid.Within(0, api.MaxEmptyHulls, p.Has, p.Wants)
	})
}

// validWays reports whether a net with so many ports can have all these ways.
func validWays(ports int, ways ...api.EmptyWay) bool {
	return valid.Every(ways, func(w api.EmptyWay) bool {
		return valid.Within(0, ports-1, w.From, w.To) &&
			w.From != w.To &&
			validCosts(w.Cost) &&
			valid.Within(0, api.MaxEmptyHulls, w.Room)
	})
}

// validCosts reports whether a hull can cost all these amounts.
func validCosts(costs ...int) bool {
	return valid.Within(0, api.MaxEmptyCost, costs...)
}

// checkMoves returns the error of a net and moves.
func checkMoves(n api.EmptyNet, moves []int) api.Errno {
	switch {
	case !validNet(n):
		return api.ErrArg
	case len(moves) != len(n.Ways):
		return api.ErrForm
	case !withinRooms(n.Ways, moves):
		return api.ErrRange
	case newTransport(n, moves).lack() > 0:
		return api.ErrState
	}
	return api.OK
}

// withinRooms reports whether there is room for the moves of all ways.
func withinRooms(ways []api.EmptyWay, moves []int) bool {
	for i, w := range ways {
		if !valid.Within(0, w.Room, moves[i]) {
			return false
		}
	}
	return true
}

// checkPrices returns the error of prices for a net.
func checkPrices(n api.EmptyNet, prices []int) api.Errno {
	switch {
	case len(prices) != len(n.Ports):
		return api.ErrForm
	case !valid.Within(0, api.MaxEmptyPrice, prices...):
		return api.ErrRange
	}
	return api.OK
}

// checkPort returns the error of a port that is to have one hull more.
func checkPort(n api.EmptyNet, port int) api.Errno {
	switch {
	case !valid.Within(0, len(n.Ports)-1, port):
		return api.ErrNone
	case n.Ports[port].Has >= api.MaxEmptyHulls:
		return api.ErrFull
	}
	return api.OK
}

// checkWeeks returns the error of a plan over weeks.
func checkWeeks(w api.EmptyWeeks) api.Errno {
	ports := len(w.Keep)
	switch {
	case !validForm(w):
		return api.ErrForm
	case len(w.Weeks)*ports > api.MaxEmptyPorts || departures(w) > api.MaxEmptyWays:
		return api.ErrLong
	case !validCosts(w.Keep...) || !validPorts(slices.Concat(w.Weeks...)...) || !valid.Every(w.Ways, func(x api.WeekWay) bool { return hasWeeks(x) && validWays(ports, x.EmptyWay) }):
		return api.ErrArg
	}
	return api.OK
}

// validForm reports whether a plan has weeks, and each one the same ports.
func validForm(w api.EmptyWeeks) bool {
	ports := len(w.Keep)
	return valid.Within(1, api.MaxEmptyWeeks, len(w.Weeks)) && ports > 0 &&
		valid.Every(w.Weeks, func(week []api.EmptyPort) bool { return len(week) == ports })
}

// hasWeeks reports whether a way can take as long as it does.
func hasWeeks(w api.WeekWay) bool {
	return valid.Within(1, api.MaxEmptyWeeks, w.Weeks)
}
