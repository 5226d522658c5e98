package tow

import "thalweg/api"

// abreast returns the size of hulls that are side by side.
func abreast(hulls ...api.TowHull) api.TowHull {
	var row api.TowHull
	for _, h := range hulls {
		row.Length = max(row.Length, h.Length)
		row.Width += h.Width
		row.Mass += h.Mass
	}
	return row
}

// hullsOf returns how many hulls rows have in all.
func hullsOf(rows ...[]api.TowHull) int {
	n := 0
	for _, row := range rows {
		n += len(row)
	}
	return n
}

// stacking is how many hulls are put into each row, and how long these rows are in all; found is false if there are no rows that are allowed.
type stacking struct {
	rows   []int
	length int
	found  bool
}

// stacker puts hulls into rows up to a width. What it has found is kept by the first hull, and by how many rows there may be from it on.
type stacker struct {
	hulls []api.TowHull
	width int
	known map[[2]int]stacking
}

// best returns the shortest rows for the hulls from a first one on; of several the smallest list.
func (s stacker) best(first, most int) (best stacking) {
	if first == len(s.hulls) {
		return stacking{found: true}
	}
	if most == 0 {
		return stacking{}
	}
	key := [2]int{first, most}
	if known, ok := s.known[key]; ok {
		return known
	}
	defer func() { s.known[key] = best }()
	for n := 1; n <= min(api.MaxAbreast, len(s.hulls)-first); n++ {
		row := abreast(s.hulls[first : first+n]...)
		if row.Width > s.width {
			break
		}
		rest := s.best(first+n, most-1)
		length := row.Length + rest.length
		// Fewer hulls in the first row make a smaller list, so that as long a tow with more of them is no better.
		if rest.found && (!best.found || length < best.length) {
			best = stacking{append([]int{n}, rest.rows...), length, true}
		}
	}
	return best
}
