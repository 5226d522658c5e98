package river_test

import (
	"math"
	"math/rand"
	"slices"
	"testing"

	"thalweg/api"
	"thalweg/river"
)

// P1.3, P1.4: the examples 1 and 2 of the chapter.
func TestFlowsOfTheExample(t *testing.T) {
	r, sides := example()
	flows := must[[][]api.Bounds](t)(river.Flows(r, sides))
	if want := [][]api.Bounds{{to(2000, 3000), to(2000, 3000), to(2000, 3000), to(2000, 3000)}, {to(1500, 1500), to(1500, 1500), to(2500, 3500), to(2500, 3500)}}; !sameRows(flows, want) {
		t.Errorf("flows %v, want %v", flows, want)
	}
	levels := must[[][]api.Bounds](t)(river.Levels(r, sides))
	if want := [][]api.Bounds{slices.Repeat([]api.Bounds{to(140, 160)}, 4), slices.Repeat([]api.Bounds{to(150, 150)}, 4)}; !sameRows(levels, want) {
		t.Errorf("levels %v, want %v", levels, want)
	}
}

// chain returns a river with three reaches, with these delays, and a forecast in which each flow tells from where and when it comes.
func chain(first, second, third int) (api.River, [][]api.Bounds) {
	r, _ := example()
	r.Shoals = nil
	r.Reaches = []api.Reach{r.Reaches[0], r.Reaches[1], r.Reaches[0]}
	for i, delay := range []int{first, second, third} {
		r.Reaches[i].Delay, r.Reaches[i].Base = delay, to(1000*(i+1), 1000*(i+1)+500)
	}
	var sides [][]api.Bounds
	for i, scale := range []int{1, 10, 100} {
		sides = append(sides, nil)
		for hour := range 5 {
			sides[i] = append(sides[i], to(scale*(hour+1), scale*(hour+2)))
		}
	}
	return r, sides
}

// P1.3: the flow of the reach above comes with its own delay, and its base before the hour 0.
func TestFlows(t *testing.T) {
	for _, c := range []struct {
		first, second, third int
		want                 [][]api.Bounds
	}{
		{0, 0, 0, [][]api.Bounds{
			{to(1, 2), to(2, 3), to(3, 4), to(4, 5), to(5, 6)},
			{to(11, 22), to(22, 33), to(33, 44), to(44, 55), to(55, 66)},
			{to(111, 222), to(222, 333), to(333, 444), to(444, 555), to(555, 666)}}},
		{1, 2, 0, [][]api.Bounds{
			{to(1, 2), to(2, 3), to(3, 4), to(4, 5), to(5, 6)},
			{to(1010, 1520), to(21, 32), to(32, 43), to(43, 54), to(54, 65)},
			{to(2100, 2700), to(2200, 2800), to(1310, 1920), to(421, 532), to(532, 643)}}},
		{3, 0, 200, [][]api.Bounds{
			{to(1, 2), to(2, 3), to(3, 4), to(4, 5), to(5, 6)},
			{to(1010, 1520), to(1020, 1530), to(1030, 1540), to(41, 52), to(52, 63)},
			{to(1110, 1720), to(1220, 1830), to(1330, 1940), to(441, 552), to(552, 663)}}},
		{5, 200, 1, [][]api.Bounds{
			{to(1, 2), to(2, 3), to(3, 4), to(4, 5), to(5, 6)},
			{to(1010, 1520), to(1020, 1530), to(1030, 1540), to(1040, 1550), to(1050, 1560)},
			{to(2100, 2700), to(2200, 2800), to(2300, 2900), to(2400, 3000), to(2500, 3100)}}},
	} {
		r, sides := chain(c.first, c.second, c.third)
		if flows := must[[][]api.Bounds](t)(river.Flows(r, sides)); !sameRows(flows, c.want) {
			t.Errorf("delays %d, %d, %d: %v, want %v", c.first, c.second, c.third, flows, c.want)
		}
	}
}

// P1.3: the flows of the longest river are summed without loss.
func TestGreatestFlows(t *testing.T) {
	r, _ := example()
	r.Shoals = nil
	r.Reaches = slices.Repeat(r.Reaches[:1], api.MaxReaches)
	for i := range r.Reaches {
		r.Reaches[i].Delay, r.Reaches[i].Base = 200, to(api.MaxSide, api.MaxSide)
	}
	sides := make([][]api.Bounds, api.MaxReaches)
	for i := range sides {
		sides[i] = slices.Repeat([]api.Bounds{to(api.MaxSide, api.MaxSide)}, api.MaxRiverHours)
	}
	flows := must[[][]api.Bounds](t)(river.Flows(r, sides))
	if b := flows[19][399]; b != to(3*api.MaxSide, 3*api.MaxSide) || flows[0][399] != to(api.MaxSide, api.MaxSide) || flows[1][0] != to(2*api.MaxSide, 2*api.MaxSide) {
		t.Error("flows", flows[0][399], flows[1][0], b)
	}
	for i := range r.Reaches {
		r.Reaches[i].Delay = 0
	}
	all := 20 * api.MaxSide
	if v := must[api.Bounds](t)(river.Volume(r, sides, 19, 0, 400)); v != to(400*all, 400*all) {
		t.Error("volume", v)
	}
	if l := must[[][]api.Bounds](t)(river.Levels(r, sides)); len(l) != 20 || len(l[19]) != 400 || l[19][399] != to(300, 300) {
		t.Error("level", l[19][399])
	}
}

// steps is a reach with a steep, a flat and a very steep part of its curve.
func steps() api.Reach {
	return api.Reach{Length: 1, Curve: []api.RateRow{{Flow: 10, Level: 100}, {Flow: 13, Level: 110}, {Flow: 20, Level: 110}, {Flow: 21, Level: 200}}}
}

// P1.4: the level at both ends of a flow.
func TestLevel(t *testing.T) {
	for _, c := range []struct {
		weir int
		flow api.Bounds
		want api.Bounds
	}{
		{0, to(0, 0), to(100, 100)}, {0, to(9, 10), to(100, 100)}, {0, to(0, 11), to(100, 104)}, {0, to(10, 12), to(100, 107)},
		{0, to(11, 11), to(103, 104)}, {0, to(12, 12), to(106, 107)}, {0, to(11, 12), to(103, 107)}, {0, to(13, 13), to(110, 110)}, {0, to(12, 14), to(106, 110)},
		{0, to(14, 20), to(110, 110)}, {0, to(20, 21), to(110, 200)}, {0, to(21, 21), to(200, 200)}, {0, to(22, 99), to(200, 200)},
		{0, to(0, 21*api.MaxSide), to(100, 200)}, {0, to(21*api.MaxSide, 21*api.MaxSide), to(200, 200)},
		{102, to(0, 10), to(102, 102)}, {103, to(11, 11), to(103, 104)}, {104, to(11, 11), to(104, 104)}, {105, to(0, 12), to(105, 107)}, {200, to(0, 99), to(200, 200)}, {201, to(0, 99), to(201, 201)},
	} {
		x := steps()
		x.Weir = c.weir
		if l, e := river.Level(x, c.flow); l != c.want || e != api.OK {
			t.Errorf("weir %d, flow %v: %v, error %d, want %v", c.weir, c.flow, l, e, c.want)
		}
	}
	wide := api.Reach{Length: 1, Curve: []api.RateRow{{}, {Flow: api.MaxSide, Level: api.MaxLevel}}}
	for _, c := range []struct{ flow, want api.Bounds }{
		{to(1, 1), to(0, 1)}, {to(999999, 1000001), to(0, 2)}, {to(1000000, 2000000), to(1, 2)}, {to(api.MaxSide-1, api.MaxSide-1), to(9999, 10000)}, {to(api.MaxSide, api.MaxSide), to(10000, 10000)},
	} {
		if l, e := river.Level(wide, c.flow); l != c.want || e != api.OK {
			t.Errorf("flow %v: %v, error %d, want %v", c.flow, l, e, c.want)
		}
	}
}

// P1.4: the errors of Level, that of the reach first.
func TestLevelErrors(t *testing.T) {
	for _, c := range boundsCases(0, 21*api.MaxSide) {
		l, e := river.Level(steps(), c.b)
		if e != errorUnless(c.ok, api.ErrRange) || !c.ok && l != to(0, 0) {
			t.Errorf("flow %v: %v, error %d", c.b, l, e)
		}
		bad := steps()
		bad.Length = 0
		if l, e := river.Level(bad, c.b); e != api.ErrArg || l != to(0, 0) {
			t.Errorf("bad reach, flow %v: %v, error %d", c.b, l, e)
		}
	}
}

// P1.4: Levels is the Level of each of the Flows.
func TestLevels(t *testing.T) {
	g := rand.New(rand.NewSource(4))
	for range 200 {
		r, sides := randomRiver(g)
		flows, levels := must[[][]api.Bounds](t)(river.Flows(r, sides)), must[[][]api.Bounds](t)(river.Levels(r, sides))
		var want [][]api.Bounds
		for i, x := range r.Reaches {
			want = append(want, nil)
			for _, flow := range flows[i] {
				want[i] = append(want[i], must[api.Bounds](t)(river.Level(x, flow)))
			}
		}
		if !sameRows(levels, want) {
			t.Fatalf("%v, want %v", levels, want)
		}
	}
}

// P1.5: the sum of the flows in some hours.
func TestVolume(t *testing.T) {
	r, sides := chain(1, 2, 0)
	for _, c := range []struct {
		reach, from, to int
		want            api.Bounds
		e               api.Errno
	}{
		{0, 0, 5, to(15, 20), api.OK}, {0, 0, 1, to(1, 2), api.OK}, {0, 4, 5, to(5, 6), api.OK}, {1, 0, 2, to(1031, 1552), api.OK}, {2, 1, 4, to(3931, 5252), api.OK},
		{2, 0, 0, to(0, 0), api.OK}, {2, 3, 3, to(0, 0), api.OK}, {2, 5, 5, to(0, 0), api.OK},
		{-1, 0, 1, to(0, 0), api.ErrNone}, {3, 0, 1, to(0, 0), api.ErrNone}, {math.MinInt, 0, 1, to(0, 0), api.ErrNone}, {math.MaxInt, 0, 1, to(0, 0), api.ErrNone},
		{-1, 3, 2, to(0, 0), api.ErrNone}, {3, -1, 6, to(0, 0), api.ErrNone},
		{0, -1, 1, to(0, 0), api.ErrRange}, {0, -1, -1, to(0, 0), api.ErrRange}, {0, 2, 1, to(0, 0), api.ErrRange}, {0, 0, 6, to(0, 0), api.ErrRange}, {0, 6, 6, to(0, 0), api.ErrRange}, {0, 5, 6, to(0, 0), api.ErrRange}, {0, 0, -1, to(0, 0), api.ErrRange},
		{0, math.MinInt, math.MaxInt, to(0, 0), api.ErrRange}, {0, math.MaxInt, math.MinInt, to(0, 0), api.ErrRange},
	} {
		if v, e := river.Volume(r, sides, c.reach, c.from, c.to); v != c.want || e != c.e {
			t.Errorf("reach %d, %d to %d: %v, error %d, want %v, %d", c.reach, c.from, c.to, v, e, c.want, c.e)
		}
	}
}
