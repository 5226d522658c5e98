package average_test

import (
	"slices"
	"testing"

	"thalweg/api"
	"thalweg/cases"
)

// P8.3: interests, commissions, and the numbers of notes.
func TestValidAverage(t *testing.T) {
	good := note(value, 0, 100)
	for _, c := range cases.Numbers(1, 40) {
		if got := adjust(c.N, 0, []api.Note{good}); got.e != cases.Error(c.OK, api.ErrRange) || len(got.l) != c.N && c.OK {
			t.Errorf("%d interests: %v", c.N, got)
		}
	}
	for _, c := range cases.Numbers(0, 10000) {
		if got := adjust(1, c.N, []api.Note{good}); got.e != cases.Error(c.OK, api.ErrRange) {
			t.Errorf("commission %d: %v", c.N, got)
		}
	}
	for _, c := range cases.Numbers(1, 4) {
		l := []api.Note{note(value, 0, 100), note(api.NoteKind(c.N), 0, 1)}
		if got := adjust(1, 0, l); got.e != cases.Error(c.OK, api.ErrArg) || !c.OK && !got.same(adjusted{at: 1, e: api.ErrArg}) {
			t.Errorf("kind %d: %v", c.N, got)
		}
	}
	for _, interests := range []int{1, 2, 40} {
		for _, c := range cases.Numbers(0, interests-1) {
			if got := adjust(interests, 0, []api.Note{note(value, c.N, 100)}); got.e != cases.Error(c.OK, api.ErrNone) {
				t.Errorf("interest %d of %d: %v", c.N, interests, got)
			}
		}
	}
	for _, c := range cases.Numbers(1, 100000000000) {
		if got := adjust(1, 0, []api.Note{note(value, 0, c.N)}); got.e != cases.Error(c.OK, api.ErrRange) {
			t.Errorf("amount %d: %v", c.N, got)
		}
	}
	for n, want := range map[int]api.Errno{299: api.OK, 300: api.OK, 301: api.ErrLong} {
		if got := adjust(1, 0, slices.Repeat([]api.Note{good}, n)); got.e != want {
			t.Errorf("%d notes: %v", n, got)
		}
	}
}

// wantTank fails unless a tank has the same error from both functions.
func wantTank(t *testing.T, name string, x tank, want api.Errno) {
	t.Helper()
	if got := x.burned(0, 1); got.e != want {
		t.Errorf("%s: Burned: %v, want %d", name, got, want)
	}
	if got := x.missing(0); got.e != want {
		t.Errorf("%s: Missing: %v, want %d", name, got, want)
	}
}

// P8.5, P8.6: soundings.
func TestValidSoundings(t *testing.T) {
	full := func(minute int) api.Sounding { return sounding(minute, 10000000, 10000000) }
	for _, c := range cases.Numbers(0, 1000000) {
		if c.N < 1000000 {
			wantTank(t, "the first minute", tank{[]api.Sounding{full(c.N), sounding(1000000, 5, 5)}, nil}, cases.Error(c.OK, api.ErrArg))
		}
		if c.N > 0 {
			wantTank(t, "the last minute", tank{[]api.Sounding{full(0), sounding(c.N, 5, 5)}, nil}, cases.Error(c.OK, api.ErrArg))
		}
	}
	for _, c := range []struct {
		minutes []int
		want    api.Errno
	}{
		{[]int{5, 6}, api.OK}, {[]int{5, 6, 7}, api.OK}, {[]int{5, 5}, api.ErrArg}, {[]int{6, 5}, api.ErrArg}, {[]int{1, 5, 5, 9}, api.ErrArg}, {[]int{1, 5, 4}, api.ErrArg}, {[]int{1, 5, 2, 9}, api.ErrArg}, {[]int{1, 9, 1}, api.ErrArg},
	} {
		x := tank{[]api.Sounding{}, bunkers(c.minutes[1], 1)}
		for _, minute := range c.minutes {
			x.l = append(x.l, sounding(minute, 5, 5))
		}
		wantTank(t, "minutes", x, c.want)
	}
	for _, c := range cases.BoundsWithin(0, 10000000) {
		first := tank{[]api.Sounding{{Minute: 1, Liters: c.B}, sounding(2, 0, 0)}, bunkers(2, 1)}
		wantTank(t, "the first liters", first, cases.Error(c.OK, api.ErrArg))
		last := tank{[]api.Sounding{full(1), {Minute: 2, Liters: c.B}}, bunkers(2, 1)}
		wantTank(t, "the last liters", last, cases.Error(c.OK, api.ErrArg))
	}
	many := func(n int) []api.Sounding {
		var l []api.Sounding
		for i := range n {
			l = append(l, sounding(i, 200-i, 200-i))
		}
		return l
	}
	wantTank(t, "100 soundings", tank{many(100), nil}, api.OK)
	wantTank(t, "101 soundings", tank{many(101), nil}, api.ErrLong)
	wantTank(t, "no soundings", tank{nil, bunkers(1, 1)}, api.ErrForm)
	wantTank(t, "one sounding", tank{many(1), nil}, api.ErrNone)
}

// P8.5, P8.6: bunkers, and the rate.
func TestValidBunkers(t *testing.T) {
	l := soundings(0, 5, 5, 1000000, 0, 0)
	fields := []cases.Field[api.Bunker]{
		{Name: "Minute", Of: func(b *api.Bunker) *int { return &b.Minute }, Low: 0, High: 1000000},
		{Name: "Liters", Of: func(b *api.Bunker) *int { return &b.Liters }, Low: 1, High: 10000000},
	}
	for _, c := range cases.Changes(bunker(50, 50), fields...) {
		for _, b := range [][]api.Bunker{{c.Value}, {c.Value, bunker(5, 5)}, {bunker(5, 5), c.Value}} {
			wantTank(t, c.Name, tank{l, b}, cases.Error(c.OK, api.ErrArg))
		}
	}
	wantTank(t, "100 bunkers", tank{l, slices.Repeat(bunkers(5, 5), 100)}, api.OK)
	wantTank(t, "101 bunkers", tank{l, slices.Repeat(bunkers(5, 5), 101)}, api.ErrLong)
	x := tank{soundings(0, 10000000, 10000000, 1, 0, 0), nil}
	for _, c := range cases.Numbers(0, 10000000) {
		if got := x.missing(c.N); got.e != cases.Error(c.OK, api.ErrRange) {
			t.Errorf("rate %d: %v", c.N, got)
		}
	}
}

// P8.7: tariffs, payers and passes.
func TestValidDues(t *testing.T) {
	fields := []cases.Field[api.Tariff]{
		{Name: "Base", Of: func(t *api.Tariff) *int { return &t.Base }, Low: 0, High: 1000000},
		{Name: "Tons", Of: func(t *api.Tariff) *int { return &t.Tons }, Low: 0, High: 1000000},
		{Name: "Length", Of: func(t *api.Tariff) *int { return &t.Length }, Low: 0, High: 1000000},
		{Name: "Passes", Of: func(t *api.Tariff) *int { return &t.Passes }, Low: 0, High: 300},
		{Name: "Off", Of: func(t *api.Tariff) *int { return &t.Off }, Low: 0, High: 10000},
		{Name: "Most", Of: func(t *api.Tariff) *int { return &t.Most }, Low: 0, High: 100000000000000},
	}
	good := pass(0, 100, 100)
	for _, tariff := range []api.Tariff{{}, exampleTariff()} {
		for _, c := range cases.Changes(tariff, fields...) {
			for _, l := range [][]api.DuePass{nil, {good}} {
				if got := dues(c.Value, 1, l); got.e != cases.Error(c.OK, api.ErrArg) {
					t.Errorf("%s: %v: %v", c.Name, c.Value, got)
				}
			}
		}
	}
	for _, c := range cases.Numbers(1, 40) {
		if got := dues(exampleTariff(), c.N, []api.DuePass{good}); got.e != cases.Error(c.OK, api.ErrRange) || len(got.l) != c.N && c.OK {
			t.Errorf("%d payers: %v", c.N, got)
		}
	}
	numbers := []cases.Field[api.DuePass]{
		{Name: "Tons", Of: func(x *api.DuePass) *int { return &x.Tons }, Low: 0, High: 400000},
		{Name: "Length", Of: func(x *api.DuePass) *int { return &x.Length }, Low: 0, High: 3000},
	}
	for _, c := range cases.Changes(good, numbers...) {
		want := billed{at: 1, e: api.ErrArg}
		if got := dues(exampleTariff(), 1, []api.DuePass{good, c.Value}); got.e != cases.Error(c.OK, api.ErrArg) || !c.OK && !got.same(want) {
			t.Errorf("%s: %v: %v", c.Name, c.Value, got)
		}
	}
	for _, payers := range []int{1, 2, 40} {
		for _, c := range cases.Numbers(0, payers-1) {
			if got := dues(exampleTariff(), payers, []api.DuePass{pass(c.N, 1, 1)}); got.e != cases.Error(c.OK, api.ErrNone) {
				t.Errorf("payer %d of %d: %v", c.N, payers, got)
			}
		}
	}
	for n, want := range map[int]api.Errno{299: api.OK, 300: api.OK, 301: api.ErrLong} {
		if got := dues(exampleTariff(), 1, slices.Repeat([]api.DuePass{good}, n)); got.e != want {
			t.Errorf("%d passes: %v", n, got)
		}
	}
}
