package average_test

import (
	"math/rand"
	"slices"
	"testing"

	"thalweg/api"
)

// P8.4: collisions, as in the examples, and what is rounded.
func TestBlame(t *testing.T) {
	free := []int{1e14, 1e14, 1e14, 1e14}
	for _, c := range []struct {
		name string
		p    parties
		want []int
	}{
		{"the example", exampleParties(), []int{3200, -3200, 0}},
		{"the example, with a limit", parties{[]int{1000, 5000, 0}, []int{7000, 3000, 0}, []int{2000, 1e14, 1e14}}, []int{2000, -2000, 0}},
		{"a limit that just does not matter", parties{[]int{1000, 5000, 0}, []int{7000, 3000, 0}, []int{3200, 0, 0}}, []int{3200, -3200, 0}},
		{"a limit that just matters", parties{[]int{1000, 5000, 0}, []int{7000, 3000, 0}, []int{3199, 0, 0}}, []int{3199, -3199, 0}},
		{"a limit of 0", parties{[]int{1000, 5000, 0}, []int{7000, 3000, 0}, []int{0, 9, 9}}, []int{0, 0, 0}},
		{"a single party", parties{[]int{1000}, []int{1}, []int{500}}, []int{0}},
		{"no losses", parties{[]int{0, 0}, []int{1, 2}, free[:2]}, []int{0, 0}},
		{"each one bears its own loss", parties{[]int{10, 20}, []int{1, 2}, free[:2]}, []int{0, 0}},
		{"the limits do not touch an own loss", parties{[]int{10, 20}, []int{1, 2}, []int{0, 0}}, []int{0, 0}},
		{"one has all the fault", parties{[]int{10, 20, 30}, []int{0, 9, 0}, free[:3]}, []int{-10, 40, -30}},
		{"what is borne is rounded like a split", parties{[]int{0, 0, 100}, []int{1, 1, 1}, free[:3]}, []int{33, 33, -66}},
		{"two get equal shares, in order", parties{[]int{0, 100, 100}, []int{1, 0, 0}, []int{101, 0, 0}}, []int{101, -50, -51}},
		{"others are between those who get", parties{[]int{100, 0, 100, 0}, []int{0, 1, 0, 0}, []int{0, 101, 0, 0}}, []int{-50, 101, -51, 0}},
		{"one gets too little for a cent", parties{[]int{0, 1, 1}, []int{1, 0, 0}, []int{1, 0, 0}}, []int{1, 0, -1}},
		{"shares by what is lacking, not by losses", parties{[]int{0, 100, 100, 0}, []int{5000, 5000, 0, 0}, []int{50, 0, 0, 0}}, []int{50, 0, -50, 0}},
		{"two pay, one up to a limit", parties{[]int{0, 0, 100, 100}, []int{1, 1, 0, 0}, []int{30, 1e14, 0, 0}}, []int{30, 100, -65, -65}},
		{"the greatest numbers", parties{slices.Repeat([]int{1e11}, 12), append(make([]int, 11), 10000), slices.Repeat([]int{1e14}, 12)}, append(slices.Repeat([]int{-1e11}, 11), 11e11)},
	} {
		if got := blame(c.p); !got.same(shared{l: c.want}) {
			t.Errorf("%s: %v, want %v", c.name, got, c.want)
		}
	}
}

// P8.4: what is accepted, and what is not.
func TestBlameErrors(t *testing.T) {
	ones := func(n int) []int { return slices.Repeat([]int{1}, n) }
	for _, c := range []struct {
		name string
		p    parties
		want api.Errno
	}{
		{"no parties", parties{}, api.ErrForm},
		{"one party", parties{ones(1), ones(1), ones(1)}, api.OK},
		{"12 parties", parties{ones(12), ones(12), ones(12)}, api.OK},
		{"13 parties", parties{ones(13), ones(13), ones(13)}, api.ErrForm},
		{"a loss too few", parties{ones(1), ones(2), ones(2)}, api.ErrForm},
		{"a fault too few", parties{ones(2), ones(1), ones(2)}, api.ErrForm},
		{"a limit too few", parties{ones(2), ones(2), ones(1)}, api.ErrForm},
		{"no losses", parties{nil, ones(2), ones(2)}, api.ErrForm},
		{"no faults", parties{ones(2), nil, ones(2)}, api.ErrForm},
		{"no limits", parties{ones(2), ones(2), nil}, api.ErrForm},
		{"the greatest loss", parties{[]int{1, 100000000000}, ones(2), ones(2)}, api.OK},
		{"a loss too great", parties{[]int{1, 100000000001}, ones(2), ones(2)}, api.ErrRange},
		{"a loss below 0", parties{[]int{1, -1}, ones(2), ones(2)}, api.ErrRange},
		{"the greatest fault", parties{ones(2), []int{1, 10000}, ones(2)}, api.OK},
		{"a fault too great", parties{ones(2), []int{1, 10001}, ones(2)}, api.ErrRange},
		{"a fault below 0", parties{ones(2), []int{1, -1}, ones(2)}, api.ErrRange},
		{"the greatest limit", parties{ones(2), ones(2), []int{0, 100000000000000}}, api.OK},
		{"a limit too great", parties{ones(2), ones(2), []int{1, 100000000000001}}, api.ErrRange},
		{"a limit below 0", parties{ones(2), ones(2), []int{-1, 1}}, api.ErrRange},
		{"nobody has a fault", parties{ones(2), []int{0, 0}, ones(2)}, api.ErrArg},
		{"nobody has a fault, nor a loss", parties{[]int{0}, []int{0}, []int{0}}, api.ErrArg},
		{"the form comes before a range", parties{[]int{-1}, ones(2), []int{-1}}, api.ErrForm},
		{"the form comes before faults", parties{ones(2), []int{0}, ones(2)}, api.ErrForm},
		{"a range comes before faults", parties{ones(2), []int{0, 0}, []int{0, -1}}, api.ErrRange},
	} {
		if got := blame(c.p); got.e != c.want || got.e != api.OK && !got.same(shared{e: got.e}) {
			t.Errorf("%s: %v, want %d", c.name, got, c.want)
		}
	}
}

// P8.4, P8.9: the same as by lists of those who pay and those who get; all adds up to 0, and nobody pays more than their limit.
func TestBlameAgainstLists(t *testing.T) {
	g := rand.New(rand.NewSource(3))
	limited, several := 0, 0
	for i := range 10000 {
		p := randomParties(g, []int{4, 1000, api.MaxAmount}[i%3])
		got := blame(p)
		if !got.same(shared{l: slowBlame(p)}) || sum(got.l) != 0 {
			t.Fatalf("%v: %v, want %v", p, got, slowBlame(p))
		}
		getters := 0
		for i, n := range got.l {
			if n > p.limits[i] {
				t.Fatalf("%v: %v", p, got)
			}
			if n > 0 && n == p.limits[i] {
				limited++
			}
			if n < 0 {
				getters++
			}
		}
		if getters > 1 {
			several++
		}
	}
	if limited < 1000 || several < 1000 {
		t.Error("too few cases:", limited, several)
	}
}
