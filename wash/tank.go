package wash

import "thalweg/api"

// spot is how much is left of a cargo, and how many cargoes were loaded after it.
type spot struct {
	left, since int
}

// tank is what is left of each cargo in a tank, if that were known.
type tank [api.MaxCargoKinds]spot

// newTank returns a clean tank in which no cargo was ever carried. As no rule asks for more, it is as if each one had been followed by so many.
func newTank() tank {
	var t tank
	for p := range t {
		t[p].since = api.MaxApart
	}
	return t
}

// reduced returns the tank after each residue was reduced by a number.
func (t tank) reduced(by int) tank {
	for p := range t {
		t[p].left = max(t[p].left-by, 0)
	}
	return t
}

// loaded returns the tank after a cargo, which leaves a residue and reduces the others.
func (t tank) loaded(cargo, level, fade int) tank {
	t = t.reduced(fade)
	for p := range t {
		t[p].since = min(t[p].since+1, api.MaxApart)
	}
	t[cargo] = spot{left: level}
	return t
}

// asClean reports whether no more is left of any cargo than in another tank.
func (t tank) asClean(than tank) bool {
	for p := range t {
		if t[p].left > than[p].left {
			return false
		}
	}
	return true
}

// state is what a tank can be like: if each event reduced the residues by the greatest number, and by the least one.
type state struct {
	best, worst tank
}

// newState returns the state at which a history begins.
func newState() state {
	return state{newTank(), newTank()}
}
