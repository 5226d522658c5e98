package freight_test

import (
	"math/rand"
	"slices"
	"testing"

	"thalweg/api"
)

const (
	notice = api.FactNotice
	stop   = api.FactStop
	resume = api.FactResume
	end    = api.FactEnd
)

// at returns messages of these kinds, each one at its minute.
func at(l ...int) []api.FreightMessage {
	var all []api.FreightMessage
	for i := 0; i < len(l); i += 2 {
		all = append(all, fact(10+i, api.FactKind(l[i]), l[i+1]))
	}
	return all
}

// between returns what happened from a notice to an end: stops and resumes in turn, at these minutes.
func between(from, to int, minutes ...int) []api.FreightMessage {
	l := []int{int(notice), from}
	for i, minute := range minutes {
		l = append(l, int(stop)+i%2, minute)
	}
	return at(append(l, int(end), to)...)
}

// lay returns a result without an error.
func lay(begin, used, over, saved int) counted {
	return counted{n: api.LayCount{Begin: begin, Used: used, Over: over, Saved: saved}}
}

// P7.4: laytime, as in the example, and what is at the ends of all times.
func TestLaytime(t *testing.T) {
	c, holiday, l := example()
	earlier := slices.Clone(l)
	earlier[3].Minute = 2000
	for _, c := range []struct {
		name string
		c    api.Charter
		free []api.FreeTime
		l    []api.FreightMessage
		want counted
	}{
		{"the example", c, holiday, l, lay(360, 1440, 700, 0)},
		{"the example, if work ends earlier", c, holiday, earlier, lay(360, 1140, 0, 300)},
		{"all minutes", timed(100, 0), nil, between(0, 60), lay(0, 60, 0, 40)},
		{"just the laytime", timed(60, 0), nil, between(0, 60), lay(0, 60, 0, 0)},
		{"a minute over", timed(59, 0), nil, between(0, 60), lay(0, 59, 1, 0)},
		{"a minute saved", timed(61, 0), nil, between(0, 60), lay(0, 60, 0, 1)},
		{"from the notice on", timed(100, 7), nil, between(5, 60), lay(12, 48, 0, 52)},
		{"the end when laytime begins", timed(100, 55), nil, between(5, 60), lay(60, 0, 0, 100)},
		{"the end before laytime begins", timed(100, 90), nil, between(5, 60), lay(95, 0, 0, 100)},
		{"the end a minute after laytime begins", timed(100, 54), nil, between(5, 60), lay(59, 1, 0, 99)},
		{"the end at the notice", timed(100, 0), nil, between(60, 60), lay(60, 0, 0, 100)},
		{"no laytime", timed(0, 0), nil, between(0, 60), lay(0, 0, 60, 0)},
		{"no laytime, and all is excepted", timed(0, 5), free(0, 100), between(0, 60, 2), lay(5, 0, 55, 0)},
		{"no laytime, and it begins after the end", timed(0, 61), nil, between(0, 60), lay(61, 0, 0, 0)},
		{"no laytime, and it begins at the end", timed(0, 60), nil, between(0, 60), lay(60, 0, 0, 0)},
		{"a free time within", timed(100, 0), free(10, 20), between(0, 60), lay(0, 50, 0, 50)},
		{"a free time of no minute", timed(100, 0), free(10, 10), between(0, 60), lay(0, 60, 0, 40)},
		{"a free time of a minute", timed(100, 0), free(10, 11), between(0, 60), lay(0, 59, 0, 41)},
		{"a free time from before the begin", timed(100, 5), free(0, 7), between(0, 60), lay(5, 53, 0, 47)},
		{"a free time until the begin", timed(100, 5), free(0, 5), between(0, 60), lay(5, 55, 0, 45)},
		{"a free time until after the end", timed(100, 0), free(50, 70), between(0, 60), lay(0, 50, 0, 50)},
		{"a free time from the end on", timed(100, 0), free(60, 70), between(0, 60), lay(0, 60, 0, 40)},
		{"a free time of all minutes", timed(100, 0), free(0, 60), between(0, 60), lay(0, 0, 0, 100)},
		{"free times that overlap", timed(100, 0), []api.FreeTime{{From: 15, To: 30}, {From: 10, To: 20}, {From: 12, To: 14}}, between(0, 60), lay(0, 40, 0, 60)},
		{"a free time within another one, and a third one", timed(30, 0), []api.FreeTime{{From: 10, To: 30}, {From: 12, To: 14}, {From: 35, To: 40}}, between(0, 60), lay(0, 30, 5, 0)},
		{"the same free time twice", timed(100, 0), []api.FreeTime{{From: 10, To: 20}, {From: 10, To: 20}}, between(0, 60), lay(0, 50, 0, 50)},
		{"a stop", timed(100, 0), nil, between(0, 60, 10, 25), lay(0, 45, 0, 55)},
		{"two stops", timed(100, 0), nil, between(0, 60, 10, 25, 30, 31), lay(0, 44, 0, 56)},
		{"a stop of no minute", timed(100, 0), nil, between(0, 60, 10, 10), lay(0, 60, 0, 40)},
		{"a stop after which nothing goes on", timed(100, 0), nil, between(0, 60, 10, 25, 40), lay(0, 25, 0, 75)},
		{"a stop at the end", timed(100, 0), nil, between(0, 60, 60), lay(0, 60, 0, 40)},
		{"a stop from before the begin", timed(100, 20), nil, between(0, 60, 10, 25), lay(20, 35, 0, 65)},
		{"a stop over the begin until the end", timed(100, 20), nil, between(0, 60, 10), lay(20, 0, 0, 100)},
		{"a stop and a free time that overlap", timed(100, 0), free(20, 30), between(0, 60, 10, 25), lay(0, 40, 0, 60)},
		{"a stop in a free time", timed(100, 0), free(10, 30), between(0, 60, 15, 20), lay(0, 40, 0, 60)},
		{"once on demurrage, always: a free time", timed(20, 0), free(30, 40), between(0, 60), lay(0, 20, 40, 0)},
		{"once on demurrage, always: a stop", timed(20, 0), nil, between(0, 60, 30, 40), lay(0, 20, 40, 0)},
		{"a free time from the minute when laytime is over", timed(20, 0), free(20, 40), between(0, 60), lay(0, 20, 40, 0)},
		{"a free time from the last minute of laytime", timed(20, 0), free(19, 40), between(0, 60), lay(0, 20, 19, 0)},
		{"a free time during laytime and another one after it", timed(20, 0), []api.FreeTime{{From: 40, To: 50}, {From: 5, To: 10}}, between(0, 60), lay(0, 20, 35, 0)},
		{"laytime ends at the end of a free time", timed(10, 0), free(0, 50), between(0, 60), lay(0, 10, 0, 0)},
		{"as many free times as there can be", timed(100, 0), slices.Repeat(free(10, 20), api.MaxFree), between(0, 60), lay(0, 50, 0, 50)},
		{"tons and levels do not matter", timed(100, 0), nil, append(between(0, 60), fact(1, api.FactTons, 0), fact(90, api.FactLevel, 99)), lay(0, 60, 0, 40)},
		{"tons and levels anywhere", timed(100, 0), nil, append(between(5, 60, 10, 20), fact(1, api.FactTons, 15), fact(2, api.FactLevel, 10)), lay(5, 45, 0, 55)},
		{"the numbers decide in one minute", timed(100, 0), nil, at(int(notice), 9, int(stop), 9, int(resume), 9, int(stop), 9, int(end), 9), lay(9, 0, 0, 100)},
		{"a stop that was withdrawn", timed(100, 0), nil, append(between(0, 60), fact(50, stop, 10), revise(fact(50, stop, 10), 1, api.FactWithdrawn, 10)), lay(0, 60, 0, 40)},
		{"an end that was corrected", timed(100, 0), nil, append(at(int(notice), 0), fact(50, end, 10), revise(fact(50, end, 0), 1, end, 60)), lay(0, 60, 0, 40)},
		{"any charter", timed(100, 0), nil, about(9, between(0, 60)), lay(0, 60, 0, 40)},
		{"the longest laytime", timed(api.MaxFreightMinute, 0), nil, between(0, api.MaxFreightMinute), lay(0, api.MaxFreightMinute, 0, 0)},
		{"the latest begin", timed(api.MaxFreightMinute, api.MaxFreightMinute), nil, between(api.MaxFreightMinute, api.MaxFreightMinute), lay(2*api.MaxFreightMinute, 0, 0, api.MaxFreightMinute)},
	} {
		if got := laytime(c.c, c.free, c.l); got != c.want {
			t.Errorf("%s: %v, want %v", c.name, got, c.want)
		}
	}
}

// P7.4: facts that are there twice, or are missing, or do not come in their order.
func TestLaytimeFacts(t *testing.T) {
	const none, twice, state = api.ErrNone, api.ErrTwice, api.ErrState
	n, s, r, e := int(notice), int(stop), int(resume), int(end)
	tons, level, gone := int(api.FactTons), int(api.FactLevel), int(api.FactWithdrawn)
	for _, c := range []struct {
		name string
		l    []api.FreightMessage
		want api.Errno
	}{
		{"no messages", nil, none},
		{"no facts", at(gone, 5), none},
		{"no end", at(n, 5), none},
		{"no notice", at(e, 5), none},
		{"no end, but stops", at(n, 5, s, 6, r, 7), none},
		{"an end that was withdrawn", append(at(n, 5), fact(50, end, 9), revise(fact(50, end, 9), 1, api.FactWithdrawn, 9)), none},
		{"tons and a level only", at(tons, 5, level, 6), none},
		{"two notices", at(n, 5, n, 6, e, 7), twice},
		{"two equal notices with two numbers", at(n, 5, n, 5, e, 7), twice},
		{"two ends", at(n, 5, e, 6, e, 7), twice},
		{"two tons", at(n, 5, tons, 6, tons, 6, e, 7), twice},
		{"two levels", at(n, 5, e, 6, level, 6, level, 7), twice},
		{"two tons, before what is missing", at(tons, 6, tons, 7), twice},
		{"two levels, before the order", at(level, 6, e, 5, n, 8, level, 7), twice},
		{"two notices of which one was withdrawn", append(at(n, 5, e, 7), fact(50, notice, 1), revise(fact(50, notice, 1), 1, api.FactWithdrawn, 9)), api.OK},
		{"something missing, before the order", at(e, 5, s, 6), none},
		{"the end first", at(e, 5, n, 6), state},
		{"the end first, by its number", at(e, 5, n, 5), state},
		{"a stop before the notice", at(s, 4, n, 5, r, 6, e, 7), state},
		{"a stop before the notice, by its number", at(s, 5, n, 5, e, 7), state},
		{"a stop and a resume before the notice", at(s, 3, r, 4, n, 5, e, 7), state},
		{"a stop after the end", at(n, 5, e, 6, s, 7), state},
		{"a resume after the end", at(n, 5, s, 6, e, 7, r, 8), state},
		{"a resume after the end, by its number", at(n, 5, s, 6, e, 7, r, 7), state},
		{"a resume first", at(n, 5, r, 6, e, 7), state},
		{"a resume and then a stop", at(n, 5, r, 6, s, 6, e, 7), state},
		{"two stops", at(n, 5, s, 6, s, 6, e, 7), state},
		{"two resumes", at(n, 5, s, 6, r, 6, r, 6, e, 7), state},
		{"two stops, with tons in between", at(n, 5, s, 6, tons, 6, s, 6, e, 7), state},
		{"tons and a level before and after all", at(tons, 1, n, 5, s, 6, r, 6, e, 7, level, 9), api.OK},
		{"a stop to the end", at(n, 5, s, 6, r, 6, s, 6, e, 7), api.OK},
		{"nothing in between", at(n, 5, e, 5), api.OK},
	} {
		if got := laytime(timed(10, 0), nil, c.l); got.e != c.want || got.e != api.OK && got != (counted{e: got.e}) {
			t.Errorf("%s: %v, want %d", c.name, got, c.want)
		}
	}
}

// P7.4, P7.8: the same minute by minute, with corrections, in any order, and with any message twice; and what each count must be.
func TestLaytimeAgainstMinutes(t *testing.T) {
	g := rand.New(rand.NewSource(4))
	seen, over, saved := map[api.Errno]int{}, 0, 0
	for range 10000 {
		c, times, l := randomCharter(g), randomFree(g, g.Intn(4), 80), randomMessages(g, g.Intn(10), 80)
		want := slowLaytime(c, times, l)
		for _, same := range [][]api.FreightMessage{l, mixed(g, l), shuffled(g, l), slowFacts(l)} {
			if len(same) > api.MaxMessages {
				continue
			}
			if got := laytime(c, mixed(g, times), same); got != want {
				t.Fatalf("%v, %v, %v: %v, want %v", c, times, same, got, want)
			}
		}
		seen[want.e]++
		if want.n.Over > 0 && want.n.Used > 0 && len(times) > 0 {
			over++
		} else if want.n.Saved > 0 && want.n.Used > 0 {
			saved++
		}
	}
	if seen[api.ErrTwice] < 200 || seen[api.ErrNone] < 200 || seen[api.ErrState] < 200 || over < 500 || saved < 500 {
		t.Error("too few cases:", seen, over, saved)
	}
}

// P7.11: used, over and saved; if work ends later, or with a holiday or a stop more.
func TestLaytimeGrows(t *testing.T) {
	g := rand.New(rand.NewSource(5))
	later, fewer, same := 0, 0, 0
	for range 10000 {
		c, times, l := randomCharter(g), randomFree(g, g.Intn(4), 80), history(g, 0, 80)
		n := laytime(c, times, l).n
		if n.Used > c.Laytime || n.Over == 0 && n.Used+n.Saved != c.Laytime || n.Over > 0 && (n.Used != c.Laytime || n.Saved != 0) {
			t.Fatalf("%v, %v, %v: %v", c, times, l, n)
		}
		more := slices.Clone(l)
		last := len(l) - 3
		more[last].Minute += g.Intn(30)
		if x := laytime(c, times, more).n; x.Used < n.Used || x.Over < n.Over {
			t.Fatalf("%v, %v: %v with %v, but %v with %v", c, times, n, l, x, more)
		} else if x != n {
			later++
		}
		holiday := randomFree(g, 1, 90)
		x := laytime(c, append(holiday, times...), l).n
		if x.Used+x.Over > n.Used+n.Over {
			t.Fatalf("%v, %v, %v: %v, but %v with %v", c, times, l, n, x, holiday)
		} else if x != n {
			fewer++
		}
		if n.Over > 0 && holiday[0].From >= l[last].Minute-n.Over {
			same++
			if x != n {
				t.Fatalf("%v, %v, %v: %v, but %v with %v, when laytime is over", c, times, l, n, x, holiday)
			}
		}
	}
	if later < 500 || fewer < 500 || same < 300 {
		t.Error("too few cases:", later, fewer, same)
	}
}

// P7.11: a stop more, from a minute on until another one, in which nothing else happens.
func TestLaytimeWithAStopMore(t *testing.T) {
	g := rand.New(rand.NewSource(6))
	fewer, same := 0, 0
	for range 5000 {
		c, times := randomCharter(g), randomFree(g, g.Intn(4), 80)
		from, to := g.Intn(20), 20+g.Intn(60)
		a, b := from+g.Intn(to-from+1), from+g.Intn(to-from+1)
		n, x := laytime(c, times, between(from, to)).n, laytime(c, times, between(from, to, min(a, b), max(a, b))).n
		if x.Used+x.Over > n.Used+n.Over {
			t.Fatalf("%v, %v: %v, but %v with a stop from %d to %d", c, times, n, x, a, b)
		} else if x != n {
			fewer++
		}
		if n.Over > 0 && min(a, b) >= to-n.Over {
			same++
			if x != n {
				t.Fatalf("%v, %v: %v, but %v with a stop from %d to %d, when laytime is over", c, times, n, x, a, b)
			}
		}
	}
	if fewer < 500 || same < 300 {
		t.Error("too few cases:", fewer, same)
	}
}
