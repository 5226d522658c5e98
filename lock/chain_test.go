package lock_test

import (
	"math"
	"math/rand"
	"slices"
	"strconv"
	"testing"

	"thalweg/api"
	"thalweg/cases"
	"thalweg/lock"
)

// chainArgs are the arguments of Days and Short.
type chainArgs struct {
	reaches []api.LockReach
	locks   []api.LockTraffic
	days    int
}

// exampleChain returns the chain of the chapter's examples, as new memory.
func exampleChain() chainArgs {
	return chainArgs{[]api.LockReach{{Volume: 10000, Least: 8000, Inflow: to(500, 600)}, {Volume: 5000}}, []api.LockTraffic{{Fill: 1000, Cycles: to(1, 2)}}, 2}
}

// shortage is what Short returns.
type shortage struct {
	day, reach int
	surely     bool
	e          api.Errno
}

// short calls Short.
func short(c chainArgs) shortage {
	day, reach, surely, e := lock.Short(c.reaches, c.locks, c.days)
	return shortage{day, reach, surely, e}
}

// chainReplies calls both functions with a chain.
func chainReplies(c chainArgs) []reply {
	days, e := lock.Days(c.reaches, c.locks, c.days)
	s := short(c)
	return []reply{{"Days", e, len(days) == 0}, {"Short", s.e, s == shortage{e: s.e}}}
}

// wantChain fails unless both functions with a chain return an error, and nothing else, or no error.
func wantChain(t *testing.T, name string, c chainArgs, want api.Errno) {
	t.Helper()
	for _, x := range chainReplies(c) {
		if x.e != want || x.e != api.OK && !x.empty {
			t.Errorf("%s: %s: error %d, nothing else is %t, want error %d", name, x.name, x.e, x.empty, want)
		}
	}
}

// mustDays returns what Days returns, and fails if it is an error.
func mustDays(t *testing.T, c chainArgs) [][]api.Bounds {
	t.Helper()
	days, e := lock.Days(c.reaches, c.locks, c.days)
	if e != api.OK {
		t.Fatalf("%v: error %d", c, e)
	}
	return days
}

// sameDays reports whether two results of Days are equal.
func sameDays(a, b [][]api.Bounds) bool {
	return slices.EqualFunc(a, b, slices.Equal[[]api.Bounds])
}

// P4.6: the example of the chapter, and what flows into and out of each reach.
func TestDays(t *testing.T) {
	three := chainArgs{[]api.LockReach{{Volume: 100, Inflow: to(1, 2)}, {Volume: 200, Inflow: to(10, 20)}, {Volume: 300, Inflow: to(100, 200)}}, []api.LockTraffic{{Fill: 5, Cycles: to(2, 3)}, {Fill: 7, Cycles: to(0, 4)}}, 2}
	none := exampleChain()
	none.days = 0
	for _, c := range []struct {
		name string
		c    chainArgs
		want [][]api.Bounds
	}{
		{"the example 5", exampleChain(), [][]api.Bounds{{to(8500, 9600), to(6000, 7000)}, {to(7000, 9200), to(7000, 9000)}}},
		{"no days", none, nil},
		{"a single reach", chainArgs{[]api.LockReach{{Volume: 7, Inflow: to(3, 5)}}, nil, 3}, [][]api.Bounds{{to(10, 12)}, {to(13, 17)}, {to(16, 22)}}},
		// The middle one gets 10 to 15 from above and loses 0 to 28.
		{"three reaches", three, [][]api.Bounds{{to(86, 92), to(192, 235), to(400, 528)}, {to(72, 84), to(184, 270), to(500, 756)}}},
		{"below 0", chainArgs{make([]api.LockReach, 2), []api.LockTraffic{{Fill: 10, Cycles: to(0, 100)}}, 2}, [][]api.Bounds{{to(-1000, 0), to(0, 1000)}, {to(-2000, 0), to(0, 2000)}}},
		{"one number each", chainArgs{[]api.LockReach{{Volume: 50, Inflow: only(4)}, {Inflow: only(1)}}, []api.LockTraffic{{Fill: 3, Cycles: only(2)}}, 2}, [][]api.Bounds{{only(48), only(7)}, {only(46), only(14)}}},
	} {
		if got := mustDays(t, c.c); !sameDays(got, c.want) {
			t.Errorf("%s: %v, want %v", c.name, got, c.want)
		}
	}
}

// P4.6: the greatest chain.
func TestGreatestChain(t *testing.T) {
	const most = api.MaxReachVolume
	reach := api.LockReach{Volume: most, Least: most, Inflow: to(0, most)}
	traffic := api.LockTraffic{Fill: api.MaxFill, Cycles: to(0, api.MaxDayCycles)}
	c := chainArgs{slices.Repeat([]api.LockReach{reach}, api.MaxLockReaches), slices.Repeat([]api.LockTraffic{traffic}, api.MaxLockReaches-1), api.MaxLockDays}
	days := mustDays(t, c)
	if len(days) != 60 {
		t.Fatal(len(days), "days")
	}
	const moved = 60 * api.MaxFill * api.MaxDayCycles
	for i, b := range days[59] {
		want := to(most-moved, most+60*most+moved)
		switch i {
		case 0:
			want.High -= moved
		case 9:
			want.Low += moved
		}
		if b != want {
			t.Error("the reach", i, b, "want", want)
		}
	}
	if s := short(c); s != (shortage{1, 0, false, api.OK}) {
		t.Error(s)
	}
}

// P4.7: the example of the chapter; the first day, and the first reach on it, but not the day 0.
func TestShort(t *testing.T) {
	least := func(days int, volumes ...int) chainArgs {
		c := exampleChain()
		c.days = days
		for i, n := range volumes {
			c.reaches[i].Least = n
		}
		return c
	}
	draws := func(days int, cycles api.Bounds, leasts ...int) chainArgs {
		c := chainArgs{days: days}
		for _, n := range leasts {
			c.reaches = append(c.reaches, api.LockReach{Volume: 100, Least: n})
			c.locks = append(c.locks, api.LockTraffic{Fill: 10, Cycles: cycles})
		}
		c.locks = c.locks[1:]
		return c
	}
	for _, c := range []struct {
		name string
		c    chainArgs
		want shortage
	}{
		{"the example 5", exampleChain(), shortage{day: 2}},
		{"the example 5, a day less", least(1, 8000, 0), shortage{}}, {"no days", least(0, 20000, 20000), shortage{}},
		{"just enough", least(1, 8500, 6000), shortage{}}, {"perhaps one too few", least(1, 8501, 0), shortage{day: 1}}, {"perhaps, at the high end", least(1, 9600, 0), shortage{day: 1}}, {"surely one too few", least(1, 9601, 0), shortage{day: 1, surely: true}},
		{"the first reach decides", least(1, 8501, 7001), shortage{day: 1}}, {"the second reach", least(1, 0, 7001), shortage{day: 1, reach: 1, surely: true}}, {"the second reach, perhaps", least(1, 0, 7000), shortage{day: 1, reach: 1}},
		{"an earlier day, a later reach", least(2, 8000, 6500), shortage{day: 1, reach: 1}},
		{"too little at first, enough then", least(5, 0, 6000), shortage{}},
		{"surely, on a later day", draws(60, only(1), 0, 0), shortage{day: 11, surely: true}}, {"on the last day", draws(11, only(1), 0, 0), shortage{day: 11, surely: true}}, {"after the last day", draws(10, only(1), 0, 0), shortage{}},
		{"below 0, perhaps", draws(60, to(0, 1), 0, 0, 0), shortage{day: 11}}, {"the last reach", draws(60, to(0, 1), 0, 0, 101), shortage{day: 1, reach: 2}},
	} {
		if got := short(c.c); got != c.want {
			t.Errorf("%s: %v, want %v", c.name, got, c.want)
		}
	}
}

// P4.7: Short is what the bounds of Days say.
func TestShortByDays(t *testing.T) {
	g := rand.New(rand.NewSource(9))
	seen := map[shortage]int{}
	for range 2000 {
		c := randomChain(g)
		want := shortage{}
		for i, volumes := range slices.Backward(mustDays(t, c)) {
			for j, b := range slices.Backward(volumes) {
				if b.Low < c.reaches[j].Least {
					want = shortage{i + 1, j, b.High < c.reaches[j].Least, api.OK}
				}
			}
		}
		if got := short(c); got != want {
			t.Fatalf("%v: %v, want %v", c, got, want)
		}
		seen[want]++
	}
	if len(seen) < 15 || seen[shortage{}] < 100 {
		t.Error("shortages:", seen)
	}
}

// P4.6, P4.7: the errors, in the order in which they are listed.
func TestChainErrors(t *testing.T) {
	reach := func(name string, c cases.Bounds, set func(x *api.LockReach, b api.Bounds)) {
		for i := range 2 {
			x := exampleChain()
			set(&x.reaches[i], c.B)
			wantChain(t, name+" "+strconv.Itoa(c.B.Low), x, cases.Error(c.OK, api.ErrArg))
		}
	}
	for _, c := range cases.Numbers(0, api.MaxReachVolume) {
		one := cases.Bounds{B: only(c.N), OK: c.OK}
		reach("Volume", one, func(x *api.LockReach, b api.Bounds) { x.Volume = b.Low })
		reach("Least", one, func(x *api.LockReach, b api.Bounds) { x.Least = b.Low })
	}
	for _, c := range cases.BoundsWithin(0, api.MaxReachVolume) {
		reach("Inflow", c, func(x *api.LockReach, b api.Bounds) { x.Inflow = b })
	}
	for _, c := range cases.Numbers(0, api.MaxFill) {
		x := exampleChain()
		x.locks[0].Fill = c.N
		wantChain(t, "Fill "+strconv.Itoa(c.N), x, cases.Error(c.OK, api.ErrArg))
	}
	for _, c := range cases.BoundsWithin(0, api.MaxDayCycles) {
		x := exampleChain()
		x.locks[0].Cycles = c.B
		wantChain(t, "Cycles", x, cases.Error(c.OK, api.ErrArg))
	}
	for _, c := range cases.Numbers(0, api.MaxLockDays) {
		x := exampleChain()
		x.days = c.N
		wantChain(t, "days "+strconv.Itoa(c.N), x, cases.Error(c.OK, api.ErrRange))
	}
	reaches, locks := make([]api.LockReach, 11), make([]api.LockTraffic, 10)
	badReach, badLock := []api.LockReach{{Volume: -1}}, []api.LockTraffic{{Fill: -1}}
	for _, c := range []struct {
		name string
		c    chainArgs
		e    api.Errno
	}{
		{"the most reaches", chainArgs{reaches[:10], locks[:9], 1}, api.OK}, {"too many reaches", chainArgs{reaches, locks, 1}, api.ErrLong}, {"too many reaches, before all else", chainArgs{slices.Repeat(badReach, 11), badLock, -1}, api.ErrLong},
		{"no reaches", chainArgs{nil, nil, 1}, api.ErrForm}, {"as many locks as reaches", chainArgs{reaches[:2], locks[:2], 1}, api.ErrForm}, {"two locks less", chainArgs{reaches[:3], locks[:1], 1}, api.ErrForm}, {"too many locks", chainArgs{reaches[:10], locks, 1}, api.ErrForm},
		{"the number of locks, before reaches, locks and days", chainArgs{badReach, badLock, -1}, api.ErrForm}, {"no reaches, before locks and days", chainArgs{nil, badLock, -1}, api.ErrForm},
		{"a reach, before the days", chainArgs{badReach, nil, -1}, api.ErrArg}, {"a lock, before the days", chainArgs{reaches[:2], badLock, -1}, api.ErrArg}, {"the last lock, before the days", chainArgs{reaches[:3], append(locks[:1:1], badLock...), 61}, api.ErrArg}, {"the last reach, before the days", chainArgs{append(reaches[:1:1], badReach...), locks[:1], 61}, api.ErrArg},
		{"the days", chainArgs{reaches[:2], locks[:1], -1}, api.ErrRange}, {"many days", chainArgs{reaches[:2], locks[:1], math.MaxInt}, api.ErrRange},
	} {
		wantChain(t, c.name, c.c, c.e)
	}
}

// some returns random bounds of at most three integers.
func some(g *rand.Rand, low, high int) api.Bounds {
	a := low + g.Intn(high-low+1)
	return to(a, min(high, a+g.Intn(3)))
}

// randomChain returns a chain of up to three reaches, and up to four days.
func randomChain(g *rand.Rand) chainArgs {
	c := chainArgs{days: g.Intn(5)}
	for i := range 1 + g.Intn(3) {
		c.reaches = append(c.reaches, api.LockReach{Volume: g.Intn(60), Least: g.Intn(1 + g.Intn(50)), Inflow: some(g, 0, 20)})
		if i > 0 {
			c.locks = append(c.locks, api.LockTraffic{Fill: g.Intn(9), Cycles: some(g, 0, 6)})
		}
	}
	return c
}

// volumes are those of up to three reaches in a truth.
type volumes [3]int

// nextDay returns what the volumes of a chain can be a day after they were one of those given.
func nextDay(c chainArgs, before map[volumes]bool) map[volumes]bool {
	for i, r := range c.reaches {
		after := map[volumes]bool{}
		for v := range before {
			for n := r.Inflow.Low; n <= r.Inflow.High; n++ {
				w := v
				w[i] += n
				after[w] = true
			}
		}
		before = after
	}
	for i, l := range c.locks {
		after := map[volumes]bool{}
		for v := range before {
			for n := l.Cycles.Low; n <= l.Cycles.High; n++ {
				w := v
				w[i] -= n * l.Fill
				w[i+1] += n * l.Fill
				after[w] = true
			}
		}
		before = after
	}
	return before
}

// P4.6, P4.12: the bounds are those of all truths, day by day; one number each has bounds of one number each.
func TestDaysByTruths(t *testing.T) {
	g := rand.New(rand.NewSource(10))
	for range 200 {
		c := randomChain(g)
		c.days = min(c.days, 3)
		if g.Intn(4) == 0 {
			for i := range c.reaches {
				c.reaches[i].Inflow.High = c.reaches[i].Inflow.Low
			}
			for i := range c.locks {
				c.locks[i].Cycles.High = c.locks[i].Cycles.Low
			}
		}
		var first volumes
		for i, r := range c.reaches {
			first[i] = r.Volume
		}
		now := map[volumes]bool{first: true}
		var want [][]api.Bounds
		for range c.days {
			now = nextDay(c, now)
			day := slices.Repeat([]api.Bounds{to(math.MaxInt, math.MinInt)}, len(c.reaches))
			for v := range now {
				for i := range day {
					day[i] = to(min(day[i].Low, v[i]), max(day[i].High, v[i]))
				}
			}
			want = append(want, day)
		}
		if got := mustDays(t, c); !sameDays(got, want) {
			t.Fatalf("%v: %v, want %v", c, got, want)
		}
	}
}

// P4.12: with one number each, the volumes of all reaches together are what they were at first, and all Inflow.
func TestVolumesInAll(t *testing.T) {
	g := rand.New(rand.NewSource(11))
	for range 500 {
		c := randomChain(g)
		all, inflow := 0, 0
		for i := range c.reaches {
			r := &c.reaches[i]
			r.Inflow.High = r.Inflow.Low
			all += r.Volume
			inflow += r.Inflow.Low
		}
		for i := range c.locks {
			c.locks[i].Cycles.High = c.locks[i].Cycles.Low
		}
		for i, day := range mustDays(t, c) {
			sum := 0
			for _, b := range day {
				sum += b.Low
				if b.Low != b.High {
					t.Fatalf("%v: %v on the day %d", c, b, i+1)
				}
			}
			if sum != all+(i+1)*inflow {
				t.Fatalf("%v: %d in all on the day %d, want %d", c, sum, i+1, all+(i+1)*inflow)
			}
		}
	}
}
