package wash

import (
	"iter"

	"thalweg/api"
)

// rules are valid rules.
type rules struct {
	api.WashRules
}

// moment is an event of a history, its number, and the state of the tank before it.
type moment struct {
	api.TankEvent
	state
	at int
}

// next returns the state after an event.
func (r rules) next(s state, x api.TankEvent) state {
	if x.Kind == api.TankWash {
		power := r.Kinds[x.Number].Power
		return state{s.best.reduced(power.High), s.worst.reduced(power.Low)}
	}
	level := r.Levels[x.Number]
	return state{s.best.loaded(x.Number, level, r.Fade.High), s.worst.loaded(x.Number, level, r.Fade.Low)}
}

// after returns the state after a history.
func (r rules) after(l []api.TankEvent) state {
	s := newState()
	for _, x := range l {
		s = r.next(s, x)
	}
	return s
}

// moments yields the events of a kind in a history.
func (r rules) moments(l []api.TankEvent, kind api.TankEventKind) iter.Seq[moment] {
	return func(yield func(moment) bool) {
		s := newState()
		for i, x := range l {
			if x.Kind == kind && !yield(moment{x, s, i}) {
				return
			}
			s = r.next(s, x)
		}
	}
}

// cargoes yields the cargoes for which a condition holds.
func (r rules) cargoes(holds func(p int) bool) iter.Seq[int] {
	return func(yield func(int) bool) {
		for p := range r.Levels {
			if holds(p) && !yield(p) {
				return
			}
		}
	}
}

// bars reports whether the cargo p is a reason why another one is not acceptable in a tank.
func (r rules) bars(t tank, p, cargo int) bool {
	return t[p].left > r.Allow[p][cargo] || t[p].since < r.Apart[p][cargo]
}

// barring yields the cargoes that are reasons why another one is not acceptable in a tank.
func (r rules) barring(t tank, cargo int) iter.Seq[int] {
	return r.cargoes(func(p int) bool { return r.bars(t, p, cargo) })
}

// accepts reports whether a cargo is acceptable in a tank.
func (r rules) accepts(t tank, cargo int) bool {
	for range r.barring(t, cargo) {
		return false
	}
	return true
}
