package wash

import (
	"cmp"
	"iter"
	"maps"
	"slices"
)

// bill is the number of some cleanings, and what they cost.
type bill struct {
	washes, cost int
}

// plus returns the sum of two bills.
func (b bill) plus(x bill) bill {
	return bill{b.washes + x.washes, b.cost + x.cost}
}

// compare compares bills by their cleanings, and then by their costs.
func (b bill) compare(x bill) int {
	return cmp.Or(cmp.Compare(b.washes, x.washes), cmp.Compare(b.cost, x.cost))
}

// way is the kind of the cleaning before each cargo of a tank, or noWash, and the bill of them.
type way struct {
	bill
	kinds []int
}

// compare compares ways by their bills, and then by their kinds.
func (w way) compare(x way) int {
	return cmp.Or(w.bill.compare(x.bill), slices.Compare(w.kinds, x.kinds))
}

// washed returns a tank after a cleaning, or after none, that reduces the residues by the least number, and the bill of it.
func (r rules) washed(t tank, kind int) (tank, bill) {
	if kind == noWash {
		return t, bill{}
	}
	k := r.Kinds[kind]
	return t.reduced(k.Power.Low), bill{1, k.Cost}
}

// carried returns a tank at its worst after a cleaning, or none, and a cargo, and the bill of it; or false if the cargo is not acceptable.
func (r rules) carried(t tank, kind, cargo int) (tank, bill, bool) {
	t, b := r.washed(t, kind)
	if !r.accepts(t, cargo) {
		return tank{}, bill{}, false
	}
	return t.loaded(cargo, r.Levels[cargo], r.Fade.Low), b, true
}

// settled returns a tank without the residues that are acceptable with all later cargoes: they are as good as none.
func (r rules) settled(t tank, later []int) tank {
	for p := range r.Levels {
		if !slices.ContainsFunc(later, func(cargo int) bool { return t[p].left > r.Allow[p][cargo] }) {
			t[p].left = 0
		}
	}
	return t
}

// ways yields what a tank at its worst can be after the first one of the cargoes that are left, and how.
func (r rules) ways(t tank, w way, jobs []int) iter.Seq2[tank, way] {
	return func(yield func(tank, way) bool) {
		for kind := noWash; kind < len(r.Kinds); kind++ {
			next, b, ok := r.carried(t, kind, jobs[0])
			// Other ways begin as this one does: a longer one must not be written into their memory.
			if ok && !yield(r.settled(next, jobs[1:]), way{w.plus(b), append(slices.Clip(w.kinds), kind)}) {
				return
			}
		}
	}
}

// reach is what a tank at its worst can be after the same cargoes, and the best way to each.
type reach map[tank]way

// after returns the reach after the first one of the cargoes that are left.
func (l reach) after(r rules, jobs []int) reach {
	longer := reach{}
	for t, w := range l {
		for next, x := range r.ways(t, w, jobs) {
			if old, found := longer[next]; !found || x.compare(old) < 0 {
				longer[next] = x
			}
		}
	}
	longer.thin()
	return longer
}

// thin leaves out each tank for which a better way leads to one that is as clean: all that is possible after the one is possible after the other, which was loaded with the same cargoes. Without this there could be millions of them.
func (l reach) thin() {
	tanks := slices.SortedFunc(maps.Keys(l), func(a, b tank) int { return l[a].compare(l[b]) })
	var kept []tank
	for _, t := range tanks {
		if slices.ContainsFunc(kept, func(k tank) bool { return k.asClean(t) }) {
			delete(l, t)
		} else {
			kept = append(kept, t)
		}
	}
}

// best returns the best way of all; there must be one.
func (l reach) best() way {
	return slices.MinFunc(slices.Collect(maps.Values(l)), way.compare)
}
