package river_test

import (
	"math/big"
	"math/rand"
	"slices"
	"testing"

	"thalweg/api"
	"thalweg/river"
)

// trueFlow returns the flow in a truth, in which all bounds are single integers.
func trueFlow(r api.River, sides [][]api.Bounds, reach, hour int) int {
	flow := sides[reach][hour].Low
	if reach == 0 {
		return flow
	}
	before := hour - r.Reaches[reach-1].Delay
	if before < 0 {
		return flow + r.Reaches[reach-1].Base.Low
	}
	return flow + trueFlow(r, sides, reach-1, before)
}

// trueLevel returns the level at a flow, not rounded.
func trueLevel(x api.Reach, flow int) *big.Rat {
	level := big.NewRat(int64(x.Curve[0].Level), 1)
	for i, b := range x.Curve[1:] {
		a := x.Curve[i]
		part := big.NewRat(int64(min(max(flow, a.Flow), b.Flow)-a.Flow), int64(b.Flow-a.Flow))
		level.Add(level, part.Mul(part, big.NewRat(int64(b.Level-a.Level), 1)))
	}
	return greater(level, big.NewRat(int64(x.Weir), 1))
}

// greater returns the greater one of two numbers.
func greater(a, b *big.Rat) *big.Rat {
	if a.Cmp(b) < 0 {
		return b
	}
	return a
}

// trueBed returns how high the bed is in a truth.
func trueBed(r api.River, place, hour int) *big.Rat {
	bed := big.NewRat(int64(r.Reaches[reachOf(r, place)].Bottom.Low), 1)
	for _, x := range r.Shoals {
		if x.Place == place {
			grown := big.NewRat(int64(x.Grow.Low*max(0, hour-x.Sounded)), 24)
			bed = greater(bed, grown.Add(grown, big.NewRat(int64(x.Bed.Low), 1)))
		}
	}
	return bed
}

// trueDepth returns the depth in a truth.
func trueDepth(r api.River, sides [][]api.Bounds, place, hour int) *big.Rat {
	reach := reachOf(r, place)
	level := trueLevel(r.Reaches[reach], trueFlow(r, sides, reach, hour))
	return greater(new(big.Rat).Sub(level, trueBed(r, place, hour)), new(big.Rat))
}

// isIn reports whether a number is in bounds.
func isIn(x *big.Rat, b api.Bounds) bool {
	return x.Cmp(big.NewRat(int64(b.Low), 1)) >= 0 && x.Cmp(big.NewRat(int64(b.High), 1)) <= 0
}

// truthOf returns a truth of a river and its forecast.
func truthOf(g *rand.Rand, r api.River, sides [][]api.Bounds) (api.River, [][]api.Bounds) {
	return mapRiver(r, sides, func(b api.Bounds) api.Bounds {
		n := one(g, b)
		return to(n, n)
	})
}

// P1.10: in each truth the flows, the levels, the beds and the depths are in their bounds.
func TestWhateverIsTrue(t *testing.T) {
	g := rand.New(rand.NewSource(7))
	for range 400 {
		r, sides := randomRiver(g)
		q, water := truthOf(g, r, sides)
		flows, levels := must[[][]api.Bounds](t)(river.Flows(r, sides)), must[[][]api.Bounds](t)(river.Levels(r, sides))
		for i, x := range r.Reaches {
			for hour := range sides[i] {
				flow := trueFlow(q, water, i, hour)
				if b := flows[i][hour]; flow < b.Low || flow > b.High {
					t.Fatalf("reach %d, hour %d: the flow %d is not in %v", i, hour, flow, b)
				}
				if level := trueLevel(x, flow); !isIn(level, levels[i][hour]) {
					t.Fatalf("reach %d, hour %d: the level %v is not in %v", i, hour, level, levels[i][hour])
				}
			}
		}
		for place := range placesOf(r) {
			for _, hour := range []int{-400, -60, -51, -50, -49, -7, -1, 20, 400} {
				if bed, b := trueBed(q, place, hour), must[api.Bounds](t)(river.Bed(r, place, hour)); !isIn(bed, b) {
					t.Fatalf("place %d, hour %d: the bed %v is not in %v", place, hour, bed, b)
				}
			}
			for hour := range sides[0] {
				if depth, b := trueDepth(q, water, place, hour), must[api.Bounds](t)(river.Depth(r, sides, place, hour)); !isIn(depth, b) {
					t.Fatalf("place %d, hour %d: the depth %v is not in %v", place, hour, depth, b)
				}
			}
		}
	}
}

// P1.4, P1.6: where a truth is all that is known, the bounds are it, rounded down and up.
func TestNoWiderThanRounding(t *testing.T) {
	g := rand.New(rand.NewSource(8))
	// rounded returns bounds of a number that are as narrow as integers can be.
	rounded := func(x *big.Rat) api.Bounds {
		quotient, rest := new(big.Int).DivMod(x.Num(), x.Denom(), new(big.Int))
		low := int(quotient.Int64())
		return to(low, low+rest.Sign())
	}
	for range 300 {
		r, sides := randomRiver(g)
		q, water := truthOf(g, r, sides)
		levels := must[[][]api.Bounds](t)(river.Levels(q, water))
		for i, x := range q.Reaches {
			for hour := range water[i] {
				if want := rounded(trueLevel(x, trueFlow(q, water, i, hour))); levels[i][hour] != want {
					t.Fatalf("reach %d, hour %d: the level %v, want %v", i, hour, levels[i][hour], want)
				}
			}
		}
		for place := range placesOf(q) {
			for hour := -60; hour < 60; hour += 7 {
				if b, want := must[api.Bounds](t)(river.Bed(q, place, hour)), rounded(trueBed(q, place, hour)); b != want {
					t.Fatalf("place %d, hour %d: the bed %v, want %v", place, hour, b, want)
				}
			}
		}
	}
}

// P1.10: in each truth the least depth on a way is in its bounds.
func TestWayWhateverIsTrue(t *testing.T) {
	g := rand.New(rand.NewSource(9))
	for range 600 {
		r, sides := randomRiver(g)
		q, water := truthOf(g, r, sides)
		way := randomWay(g, r, len(sides[0]))
		b, _, _, e := river.Shallowest(r, sides, way)
		var least *big.Rat
		for _, x := range way {
			depth := trueDepth(q, water, x.Place, one(g, x.Hours))
			if least == nil || depth.Cmp(least) < 0 {
				least = depth
			}
		}
		if e != api.OK || !isIn(least, b) {
			t.Fatalf("%v: %v is not in %v, error %d", way, least, b, e)
		}
	}
}

// P1.10: a place that is surely closed is closed, and one that is closed is possibly closed.
func TestClosedWhateverIsTrue(t *testing.T) {
	g := rand.New(rand.NewSource(10))
	for range 600 {
		r, sides := randomRiver(g)
		q, water := truthOf(g, r, sides)
		place, hour := g.Intn(placesOf(r)), g.Intn(len(sides[0]))
		reach := reachOf(r, place)
		level := trueLevel(q.Reaches[reach], trueFlow(q, water, reach, hour))
		closed := level.Cmp(big.NewRat(int64(q.Reaches[reach].Flood), 1)) > 0
		var l []api.Closure
		for range g.Intn(4) {
			x := some(g, 0, placesOf(r)-1)
			c := closure(x.Low, x.High, some(g, -3, 5), some(g, -3, 8))
			l = append(l, c)
			closed = closed || c.From <= place && place <= c.To && one(g, c.Begin) <= hour && hour < one(g, c.End)
		}
		possibly, surely, e := river.Closed(r, sides, l, place, hour)
		if e != api.OK || surely && !closed || closed && !possibly {
			t.Fatalf("%v: closed %t, possibly %t, surely %t, error %d", l, closed, possibly, surely, e)
		}
	}
}

// P1.11: the Lows depend on the Lows only, and the Highs on the Highs.
func TestBothEnds(t *testing.T) {
	g := rand.New(rand.NewSource(11))
	lows := func(b api.Bounds) api.Bounds { return to(b.Low, b.Low) }
	highs := func(b api.Bounds) api.Bounds { return to(b.High, b.High) }
	for range 200 {
		r, sides := randomRiver(g)
		flows := must[[][]api.Bounds](t)(river.Flows(r, sides))
		for _, end := range []func(api.Bounds) api.Bounds{lows, highs} {
			q, water := mapRiver(r, sides, end)
			_, want := mapRiver(api.River{}, flows, end)
			if l := must[[][]api.Bounds](t)(river.Flows(q, water)); !sameRows(l, want) {
				t.Fatalf("%v, want %v", l, want)
			}
		}
	}
}

// P1.11: with narrower bounds no result is wider.
func TestNarrower(t *testing.T) {
	g := rand.New(rand.NewSource(12))
	for range 300 {
		r, sides := randomRiver(g)
		q, water := mapRiver(r, sides, func(b api.Bounds) api.Bounds { return narrower(g, b) })
		hours, place := len(sides[0]), g.Intn(placesOf(r))
		hour, reach, way := g.Intn(hours), g.Intn(len(sides)), randomWay(g, r, hours)
		part, flow := some(g, 0, hours), some(g, 0, 60)
		results := func(r api.River, sides [][]api.Bounds, flow api.Bounds) []api.Bounds {
			l := slices.Concat(must[[][]api.Bounds](t)(river.Flows(r, sides))...)
			l = append(l, slices.Concat(must[[][]api.Bounds](t)(river.Levels(r, sides))...)...)
			least, _, _, _ := river.Shallowest(r, sides, way)
			return append(l, least,
				must[api.Bounds](t)(river.Volume(r, sides, reach, part.Low, part.High)),
				must[api.Bounds](t)(river.Bed(r, place, hour)),
				must[api.Bounds](t)(river.Depth(r, sides, place, hour)),
				must[api.Bounds](t)(river.Level(r.Reaches[reach], flow)))
		}
		wide, narrow := results(r, sides, flow), results(q, water, narrower(g, flow))
		for i := range wide {
			if !contains(wide[i], narrow[i]) {
				t.Fatalf("result %d: %v is not in %v", i, narrow[i], wide[i])
			}
		}
		c := closure(0, place, some(g, 0, 3), some(g, 0, 6))
		d := closure(0, place, narrower(g, c.Begin), narrower(g, c.End))
		possibly, surely, _ := river.Closed(r, sides, []api.Closure{c}, place, hour)
		maybe, sure, _ := river.Closed(q, water, []api.Closure{d}, place, hour)
		if maybe && !possibly || surely && !sure {
			t.Fatalf("closed: %t, %t, and narrower: %t, %t", possibly, surely, maybe, sure)
		}
	}
}

// P1.11: with more water from the sides no level is lower.
func TestMoreWater(t *testing.T) {
	g := rand.New(rand.NewSource(13))
	for range 200 {
		r, sides := randomRiver(g)
		_, more := mapRiver(r, sides, func(b api.Bounds) api.Bounds {
			low := g.Intn(5)
			return to(b.Low+low, b.High+low+g.Intn(5))
		})
		a, b := must[[][]api.Bounds](t)(river.Levels(r, sides)), must[[][]api.Bounds](t)(river.Levels(r, more))
		for i := range a {
			for hour := range a[i] {
				if b[i][hour].Low < a[i][hour].Low || b[i][hour].High < a[i][hour].High {
					t.Fatalf("reach %d, hour %d: %v, and with more water %v", i, hour, a[i][hour], b[i][hour])
				}
			}
		}
	}
}

// P1.12: what flows into a reach flows through it.
func TestNoWaterIsLost(t *testing.T) {
	g := rand.New(rand.NewSource(14))
	checked := 0
	for range 500 {
		r, sides := randomRiver(g)
		for reach := 1; reach < len(sides); reach++ {
			delay := r.Reaches[reach-1].Delay
			if delay > len(sides[0]) {
				continue
			}
			part := some(g, delay, len(sides[0]))
			want := must[api.Bounds](t)(river.Volume(r, sides, reach-1, part.Low-delay, part.High-delay))
			for _, b := range sides[reach][part.Low:part.High] {
				want = to(want.Low+b.Low, want.High+b.High)
			}
			if v := must[api.Bounds](t)(river.Volume(r, sides, reach, part.Low, part.High)); v != want {
				t.Fatalf("reach %d, %v: %v, want %v", reach, part, v, want)
			}
			checked++
		}
	}
	if checked < 200 {
		t.Error("only", checked, "volumes were compared")
	}
}

// P1.13: a way and its parts; one pass more; more hours.
func TestWays(t *testing.T) {
	g := rand.New(rand.NewSource(15))
	for range 400 {
		r, sides := randomRiver(g)
		hours := len(sides[0])
		least := func(way []api.Pass) api.Bounds {
			b, _, _, e := river.Shallowest(r, sides, way)
			return must[api.Bounds](t)(b, e)
		}
		way, other := randomWay(g, r, hours), randomWay(g, r, hours)
		a, b := least(way), least(other)
		if all := least(slices.Concat(way, other)); all != to(min(a.Low, b.Low), min(a.High, b.High)) {
			t.Fatalf("parts %v and %v, the whole %v", a, b, all)
		}
		if more := least(slices.Insert(slices.Clone(way), g.Intn(len(way)+1), other[0])); more.Low > a.Low || more.High > a.High {
			t.Fatalf("%v, and with one pass more %v", a, more)
		}
		longer := slices.Clone(way)
		x := &longer[g.Intn(len(way))]
		x.Hours = to(g.Intn(x.Hours.Low+1), x.Hours.High+g.Intn(hours-x.Hours.High))
		if more := least(longer); more.Low > a.Low || more.High < a.High {
			t.Fatalf("%v, and with more hours %v", a, more)
		}
	}
}

// byDepths returns what Shallowest returns, by Depth in each hour of each pass.
func byDepths(t *testing.T, r api.River, sides [][]api.Bounds, way []api.Pass) (least api.Bounds, pass, hour int) {
	for i, x := range way {
		high := 0
		for h := x.Hours.Low; h <= x.Hours.High; h++ {
			d := must[api.Bounds](t)(river.Depth(r, sides, x.Place, h))
			if i == 0 && h == x.Hours.Low || d.Low < least.Low {
				least.Low, pass, hour = d.Low, i, h
			}
			high = max(high, d.High)
		}
		if i == 0 || high < least.High {
			least.High = high
		}
	}
	return least, pass, hour
}

// P1.8, P1.13: the bounds of a way are those of Depth, and its Low is at the pass and the hour that are returned, not earlier.
func TestWayByDepths(t *testing.T) {
	g := rand.New(rand.NewSource(16))
	for range 500 {
		r, sides := randomRiver(g)
		way := randomWay(g, r, len(sides[0]))
		want, pass, hour := byDepths(t, r, sides, way)
		b, p, h, e := river.Shallowest(r, sides, way)
		if b != want || p != pass || h != hour || e != api.OK {
			t.Fatalf("%v: %v, pass %d, hour %d, error %d, want %v, %d, %d", way, b, p, h, e, want, pass, hour)
		}
	}
}
