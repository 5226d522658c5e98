package hull_test

import (
	"math/rand"
	"slices"
	"testing"

	"thalweg/api"
	"thalweg/hull"
	"thalweg/river"
)

// floating calls a function with hulls that float with a load, and returns how many there were.
func floating(t *testing.T, seed int64, tries int, f func(g *rand.Rand, h api.Hull, load []int, density api.Bounds, x api.HullFloat)) {
	t.Helper()
	g := rand.New(rand.NewSource(seed))
	n := 0
	for range tries {
		h, density := randomHull(g), randomDensity(g)
		load := randomLoad(g, h)
		if x, e := hull.Float(h, load, density); e == api.OK {
			n++
			f(g, h, load, density, x)
		}
	}
	if n < tries/10 {
		t.Errorf("only %d of %d hulls float", n, tries)
	}
}

// P2.9: the volume at the mean draft is enough, and a centimeter higher it is not.
func TestMeanDraft(t *testing.T) {
	floating(t, 7, 2000, func(g *rand.Rand, h api.Hull, load []int, density api.Bounds, x api.HullFloat) {
		for _, c := range []struct{ density, mean int }{{density.High, x.Mean.Low}, {density.Low, x.Mean.High}} {
			mass := massOf(h, load) * 1000
			if v := must[int](t)(hull.Volume(h, c.mean)); v*c.density < mass {
				t.Fatalf("%v, load %v: %d at the mean draft %d is not enough", h, load, v, c.mean)
			}
			if c.mean == 0 {
				continue
			}
			if v := must[int](t)(hull.Volume(h, c.mean-1)); v*c.density >= mass {
				t.Fatalf("%v, load %v: %d at the draft %d is enough", h, load, v, c.mean-1)
			}
		}
	})
}

// P2.9: with a lot more the mean draft is not less.
func TestOneLotMore(t *testing.T) {
	floating(t, 8, 2000, func(g *rand.Rand, h api.Hull, load []int, density api.Bounds, x api.HullFloat) {
		for i := range load {
			more := slices.Clone(load)
			more[i]++
			y, e := hull.Float(h, more, density)
			if e == api.OK && (y.Mean.Low < x.Mean.Low || y.Mean.High < x.Mean.High) {
				t.Fatalf("%v, load %v: %v, and with %v %v", h, load, x, more, y)
			}
		}
	})
}

// P2.9: with a greater density no draft is greater, and a hull that floats does so then, too.
func TestDenserWater(t *testing.T) {
	floating(t, 9, 2000, func(g *rand.Rand, h api.Hull, load []int, density api.Bounds, x api.HullFloat) {
		low := density.Low + g.Intn(api.MaxDensity-density.Low+1)
		high := max(low, density.High) + g.Intn(api.MaxDensity-max(low, density.High)+1)
		y := must[api.HullFloat](t)(hull.Float(h, load, to(low, high)))
		if y.Mean.Low > x.Mean.Low || y.Mean.High > x.Mean.High || y.Deep.Low > x.Deep.Low || y.Deep.High > x.Deep.High {
			t.Fatalf("%v, load %v: %v at %v, and %v at %d to %d", h, load, x, density, y, low, high)
		}
	})
}

// truthOf returns a truth of a passage: each of its bounds is a single integer.
func truthOf(g *rand.Rand, p api.Passage) api.Passage {
	r := api.River{Reaches: slices.Clone(p.River.Reaches), Shoals: slices.Clone(p.River.Shoals)}
	for i, x := range r.Reaches {
		r.Reaches[i].Base, r.Reaches[i].Bottom = one(g, x.Base), one(g, x.Bottom)
	}
	for i, x := range r.Shoals {
		r.Shoals[i].Bed, r.Shoals[i].Grow = one(g, x.Bed), one(g, x.Grow)
	}
	p.River = r
	p.Sides = slices.Clone(p.Sides)
	for i, side := range p.Sides {
		p.Sides[i] = nil
		for _, b := range side {
			p.Sides[i] = append(p.Sides[i], one(g, b))
		}
	}
	return p
}

// depths calls a function with the depth at each pass in each of its hours.
func depths(t *testing.T, p api.Passage, f func(pass, hour int, depth api.Bounds)) {
	t.Helper()
	for i, x := range p.Way {
		for hour := x.Hours.Low; hour <= x.Hours.High; hour++ {
			f(i, hour, must[api.Bounds](t)(river.Depth(p.River, p.Sides, x.Place, hour)))
		}
	}
}

// P2.10: a hull that is surely safe never touches ground, whatever is true of the river and the density.
func TestItNeverTouchesGround(t *testing.T) {
	n := 0
	floating(t, 10, 3000, func(g *rand.Rand, h api.Hull, load []int, density api.Bounds, x api.HullFloat) {
		p := randomPassage(g)
		if !mustSafe(t, h, load, density, p).surely {
			return
		}
		n++
		for range 4 {
			_, deep, floats := draftsAt(h, load, one(g, density).Low)
			depths(t, truthOf(g, p), func(pass, hour int, depth api.Bounds) {
				if !floats || deep+p.Keel > depth.Low {
					t.Fatalf("%v, load %v, %v: the deep draft %d, pass %d, hour %d, depth %v", h, load, p, deep, pass, hour, depth)
				}
			})
		}
	})
	if n < 100 {
		t.Error("only", n, "hulls were surely safe")
	}
}

// P2.10: a hull that is not surely safe may touch ground at some pass in an hour of it; and first there, where Safe says.
func TestWhereItMayTouchGround(t *testing.T) {
	n := 0
	floating(t, 11, 3000, func(g *rand.Rand, h api.Hull, load []int, density api.Bounds, x api.HullFloat) {
		p := randomPassage(g)
		got := mustSafe(t, h, load, density, p)
		touches, here := false, false
		depths(t, p, func(pass, hour int, depth api.Bounds) {
			touch := depth.Low < x.Deep.High+p.Keel
			touches = touches || touch
			here = here || touch && pass == got.pass && hour == got.hour
		})
		if touches == got.surely || touches != here {
			t.Fatalf("%v, load %v, %v: %v, but it may touch ground: %v, at this pass: %v", h, load, p, got, touches, here)
		}
		if touches {
			n++
		}
	})
	if n < 100 {
		t.Error("only", n, "hulls were not surely safe")
	}
}

// lotsOf returns how many lots Advise advises, or -1 if no load is safe.
func lotsOf(t *testing.T, h api.Hull, density api.Bounds, p api.Passage) int {
	t.Helper()
	a, e := hull.Advise(h, density, p)
	if e == api.ErrState {
		return -1
	}
	return must[api.HullAdvice](t)(a, e).Lots
}

// P2.11: the load that is advised surely can take the way, and none with more lots.
func TestNoMoreLots(t *testing.T) {
	g := rand.New(rand.NewSource(12))
	for range 500 {
		h, density, p := randomHull(g), randomDensity(g), randomPassage(g)
		lots := lotsOf(t, h, density, p)
		if a, e := hull.Advise(h, density, p); e == api.OK && (sum(a.Load) != a.Lots || !mustSafe(t, h, a.Load, density, p).surely) {
			t.Fatalf("%v, %v: %v is not safe", h, p, a)
		}
		for _, load := range allLoads(h) {
			if surely, _, _, _, _ := hull.Safe(h, load, density, p); surely && sum(load) > lots {
				t.Fatalf("%v, %v: %d lots, but %v is safe", h, p, lots, load)
			}
		}
	}
}

// P2.11: with more Keel, or another pass, there are not more lots; with more room in a hold not fewer.
func TestMoreKeelPassesAndRoom(t *testing.T) {
	g := rand.New(rand.NewSource(13))
	fewer := 0
	for range 1000 {
		h, density, p := randomHull(g), randomDensity(g), randomPassage(g)
		lots := lotsOf(t, h, density, p)
		more := p
		more.Keel += 1 + g.Intn(20)
		keel := lotsOf(t, h, density, more)
		longer := p
		other := randomPassage(g).Way[0].Hours.Low
		hour := min(other, len(p.Sides[0])-1)
		longer.Way = append(slices.Clone(p.Way), pass(0, hour, hour))
		if way := lotsOf(t, h, density, longer); keel > lots || way > lots {
			t.Fatalf("%v, %v: %d lots, %d with more Keel, %d with another pass", h, p, lots, keel, way)
		}
		if keel < lots {
			fewer++
		}
		wider := copyHull(h)
		for _, x := range wider.Sections {
			for i := range x.Holds {
				x.Holds[i].Lots += g.Intn(3)
			}
		}
		if room := lotsOf(t, wider, density, p); room < lots {
			t.Fatalf("%v, %v: %d lots, %d with more room", h, p, lots, room)
		}
	}
	if fewer < 100 {
		t.Error("only", fewer, "hulls had fewer lots with more Keel")
	}
}

// P2.12: with fewer lots in a hull that lies level with both loads, Later is not greater.
func TestFewerLotsAreNotLater(t *testing.T) {
	g := rand.New(rand.NewSource(14))
	earlier := 0
	for range 3000 {
		x := randomSection(g, 0)
		x.Light, x.Holds = g.Intn(20), []api.HullHold{hold(0, 4), hold(x.Length, 4)}
		h, density, p := api.Hull{Lot: 1 + g.Intn(8), Sections: []api.HullSection{x}}, randomDensity(g), randomPassage(g)
		p.Way = p.Way[:1]
		few, many := g.Intn(4), 4
		k, e := hull.Later(h, []int{many, many}, density, p)
		if e != api.OK {
			continue
		}
		l := must[int](t)(hull.Later(h, []int{few, few}, density, p))
		if l > k {
			t.Fatalf("%v, %v: %d with %d lots at each end, %d with %d", h, p, l, few, k, many)
		}
		if l < k {
			earlier++
		}
	}
	if earlier < 20 {
		t.Error("only", earlier, "hulls were earlier with fewer lots")
	}
}

// P2.13: a hull that is cut in two, and welded, is the same; its volume is that of both parts, up to the lesser limit.
func TestCutAndWeld(t *testing.T) {
	g := rand.New(rand.NewSource(15))
	for range 500 {
		h := randomHull(g)
		for cut := 1; cut < len(h.Sections); cut++ {
			first := must[api.Hull](t)(hull.Cut(h, cut, len(h.Sections)))
			last := must[api.Hull](t)(hull.Cut(h, 0, cut))
			if first.Lot != h.Lot || last.Lot != h.Lot || len(first.Sections) != cut || len(last.Sections) != len(h.Sections)-cut {
				t.Fatalf("%v: cut into %v and %v", h, first, last)
			}
			whole := must[api.Hull](t)(hull.Weld(first, last))
			if !sameHull(whole, h) {
				t.Fatalf("%v: cut and welded: %v", h, whole)
			}
			limit := min(limitOf(first), limitOf(last))
			for draft := range limit + 1 {
				a, b := must[int](t)(hull.Volume(first, draft)), must[int](t)(hull.Volume(last, draft))
				if v := must[int](t)(hull.Volume(whole, draft)); v != a+b {
					t.Fatalf("%v: draft %d: %d, the parts %d and %d", h, draft, v, a, b)
				}
			}
			if _, e := hull.Volume(whole, limit+1); e != api.ErrRange {
				t.Fatalf("%v: beyond the limit %d: error %d", h, limit, e)
			}
		}
	}
}

// P2.13: a hull without sections in its middle is its first and its last ones, welded.
func TestCutMiddle(t *testing.T) {
	g := rand.New(rand.NewSource(16))
	for range 300 {
		h := marked(3, g.Intn(9), g.Intn(9), g.Intn(9), g.Intn(9))
		for i := range h.Sections {
			h.Sections[i].Holds = h.Sections[i].Holds[:min(1, len(h.Sections[i].Holds))]
		}
		first, last := must[api.Hull](t)(hull.Cut(h, 1, 4)), must[api.Hull](t)(hull.Cut(h, 0, 3))
		if a, b := must[api.Hull](t)(hull.Cut(h, 1, 3)), must[api.Hull](t)(hull.Weld(first, last)); !sameHull(a, b) {
			t.Fatalf("%v: %v, welded %v", h, a, b)
		}
	}
}
