package empties

import "thalweg/api"

// market is a net with the price of a hull in each port.
type market struct {
	api.EmptyNet
	prices []int
}

// gain returns what is earned with a hull on a way, if it is bought and sold for the prices.
func (m market) gain(w api.EmptyWay) int {
	return m.prices[w.To] - m.prices[w.From] - w.Cost
}

// bound returns a cost below which no moves are possible.
func (m market) bound() int {
	sum := 0
	for i, p := range m.Ports {
		sum += m.prices[i] * (p.Wants - p.Has)
	}
	for _, w := range m.Ways {
		sum -= w.Room * max(m.gain(w), 0)
	}
	return sum
}

// prove reports whether the prices prove the moves of a transport.
func (m market) prove(t transport) bool {
	for i, w := range m.Ways {
		gain := m.gain(w)
		if gain < 0 && t.moves[i] > 0 || gain > 0 && t.moves[i] < w.Room {
			return false
		}
	}
	for port, spare := range t.spare {
		if spare > 0 && m.prices[port] > 0 {
			return false
		}
	}
	return true
}
