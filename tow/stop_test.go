package tow_test

import (
	"math/big"
	"math/rand"
	"testing"

	"thalweg/api"
	"thalweg/tow"
)

// P3.3: the example of the chapter, and what is rounded.
func TestStop(t *testing.T) {
	for _, c := range []struct {
		name        string
		mass, power int
		grip        api.Bounds
		speed       int
		want        api.Bounds
	}{
		{"the example 3", 7700, 2000, to(100, 125), 90, to(246, 271)},
		{"at rest", 7700, 2000, to(100, 125), 0, only(0)},
		{"no mass", 0, 1, only(1), 3, only(5)}, {"no mass, rounded", 0, 1, only(1), 1, to(1, 2)}, {"no mass, rounded", 0, 1, only(1), 2, to(3, 4)}, {"no mass, the fastest", 0, 20000, to(1, 1000), 400, to(666, 667)},
		// 3 * 5 / 3, and 9000 * 2592 / (2592 * 9 * 1000) with the greater grip.
		{"whole meters", 2592, 9, only(1000), 3, only(6)}, {"whole meters", 2592, 9, to(500, 1000), 3, to(6, 7)}, {"whole meters", 2592, 9, to(250, 500), 3, to(7, 9)},
		{"a ton more", 2593, 9, only(1000), 3, to(6, 7)}, {"a ton less", 2591, 9, only(1000), 3, to(5, 6)},
		// 1 2/3 and 1/3: together they are whole.
		{"a whole sum", 864, 1, only(1000), 1, only(2)}, {"just below", 863, 1, only(1000), 1, to(1, 2)}, {"just above", 865, 1, only(1000), 1, to(2, 3)},
		{"the longest way", 400000, 1, only(1), 400, to(24691358691, 24691358692)}, {"the longest way", 400000, 1, to(1, 1000), 400, to(24692024, 24691358692)},
		{"the strongest boat", 400000, 20000, only(1000), 400, to(1901, 1902)},
	} {
		if got, e := tow.Stop(c.mass, c.power, c.grip, c.speed); got != c.want || e != api.OK {
			t.Errorf("%s: %v, error %d, want %v", c.name, got, e, c.want)
		}
	}
}

// stopOf returns what a tow needs to stop, by fractions, rounded down and up.
func stopOf(mass, power, grip, speed int) (down, up int) {
	way := big.NewRat(int64(speed)*5, 3)
	way.Add(way, big.NewRat(int64(mass)*1000*int64(speed)*int64(speed), 2592*int64(power)*int64(grip)))
	n := new(big.Int).Div(way.Num(), way.Denom())
	down = int(n.Int64())
	if way.IsInt() {
		return down, down
	}
	return down, down + 1
}

// push is a tow that is to stop.
type push struct {
	mass, power int
	grip        api.Bounds
}

// randomPush returns a tow that is to stop.
func randomPush(g *rand.Rand) push {
	return push{g.Intn(1 + g.Intn(api.MaxTowMass+1)), 1 + g.Intn(1+g.Intn(api.MaxPower)), some(g, 1, api.MaxGrip, 200)}
}

// P3.3: the ends are those of both ends of the grip, rounded once.
func TestStopByFractions(t *testing.T) {
	g := rand.New(rand.NewSource(3))
	for range 3000 {
		x, speed := randomPush(g), g.Intn(api.MaxSpeed+1)
		low, _ := stopOf(x.mass, x.power, x.grip.High, speed)
		_, high := stopOf(x.mass, x.power, x.grip.Low, speed)
		if got := must[api.Bounds](t)(tow.Stop(x.mass, x.power, x.grip, speed)); got != to(low, high) {
			t.Fatalf("%v, speed %d: %v, want %d to %d", x, speed, got, low, high)
		}
	}
}

// P3.3, P3.4: the errors of Stop and Safe.
func TestStopErrors(t *testing.T) {
	check := func(name string, x push, speed, sight int, stop, safe bool) {
		t.Helper()
		way, e := tow.Stop(x.mass, x.power, x.grip, speed)
		if e != errorUnless(stop, api.ErrRange) || e != api.OK && way != (api.Bounds{}) {
			t.Errorf("%s: Stop of %v, speed %d: %v, error %d", name, x, speed, way, e)
		}
		fast, e := tow.Safe(x.mass, x.power, x.grip, sight)
		if e != errorUnless(safe, api.ErrRange) || e != api.OK && fast != 0 {
			t.Errorf("%s: Safe of %v, sight %d: %d, error %d", name, x, sight, fast, e)
		}
	}
	for _, c := range numberCases(0, api.MaxTowMass) {
		check("mass", push{c.n, 2000, to(100, 125)}, 90, 500, c.ok, c.ok)
	}
	for _, c := range numberCases(1, api.MaxPower) {
		check("power", push{7700, c.n, to(100, 125)}, 90, 500, c.ok, c.ok)
	}
	for _, c := range boundsCases(1, api.MaxGrip) {
		check("grip", push{7700, 2000, c.b}, 90, 500, c.ok, c.ok)
	}
	for _, c := range numberCases(0, api.MaxSpeed) {
		check("speed", push{7700, 2000, to(100, 125)}, c.n, 500, c.ok, true)
	}
	for _, c := range numberCases(0, api.MaxSight) {
		check("sight", push{7700, 2000, to(100, 125)}, 90, c.n, true, c.ok)
	}
}

// P3.4: the edges of a sight.
func TestSafe(t *testing.T) {
	example := push{7700, 2000, to(100, 125)}
	for _, c := range []struct {
		name        string
		x           push
		sight, want int
	}{
		{"the example's way", example, 271, 90}, {"a meter less", example, 270, 89}, {"a meter more", example, 272, 90},
		{"no sight", example, 0, 0}, {"less than the least way", push{0, 1, only(1)}, 1, 0}, {"the least way", push{0, 1, only(1)}, 2, 1}, {"some of the way", push{0, 1, only(1)}, 4, 2}, {"whole meters", push{0, 1, only(1)}, 5, 3},
		{"nearly the fastest", push{0, 1, only(1)}, 666, 399}, {"the fastest", push{0, 1, only(1)}, 667, 400}, {"faster than allowed", push{0, 1, only(1)}, 668, 400}, {"the farthest sight", push{0, 1, only(1)}, api.MaxSight, 400},
		{"the least grip counts", push{400000, 1, to(1, 1000)}, api.MaxSight, 0}, {"the heaviest tow", push{400000, 20000, only(1000)}, 1902, 400}, {"the heaviest tow", push{400000, 20000, only(1000)}, 1901, 399},
	} {
		if got, e := tow.Safe(c.x.mass, c.x.power, c.x.grip, c.sight); got != c.want || e != api.OK {
			t.Errorf("%s: %d, error %d, want %d", c.name, got, e, c.want)
		}
	}
}

// P3.4, P3.13: at the speed that Safe returns the tow can stop in its sight, and at no greater one surely.
func TestSafeIsGreatest(t *testing.T) {
	g := rand.New(rand.NewSource(4))
	for range 300 {
		x, sight := randomPush(g), g.Intn(1+g.Intn(3000))
		want := 0
		for speed := range api.MaxSpeed + 1 {
			if _, up := stopOf(x.mass, x.power, x.grip.Low, speed); up <= sight {
				want = speed
			}
		}
		got := must[int](t)(tow.Safe(x.mass, x.power, x.grip, sight))
		if got != want {
			t.Fatalf("%v, sight %d: %d, want %d", x, sight, got, want)
		}
		if way := must[api.Bounds](t)(tow.Stop(x.mass, x.power, x.grip, got)); way.High > sight {
			t.Fatalf("%v, sight %d: %v at the speed %d", x, sight, way, got)
		}
		if got == api.MaxSpeed {
			continue
		}
		if way := must[api.Bounds](t)(tow.Stop(x.mass, x.power, x.grip, got+1)); way.High <= sight {
			t.Fatalf("%v, sight %d: %v at the speed %d", x, sight, way, got+1)
		}
	}
}

// P3.13: a heavier tow needs no less way to stop, nor does a faster one.
func TestHeavierAndFaster(t *testing.T) {
	g := rand.New(rand.NewSource(5))
	for range 2000 {
		x, speed := randomPush(g), g.Intn(api.MaxSpeed+1)
		way := must[api.Bounds](t)(tow.Stop(x.mass, x.power, x.grip, speed))
		heavier := must[api.Bounds](t)(tow.Stop(x.mass+g.Intn(api.MaxTowMass-x.mass+1), x.power, x.grip, speed))
		faster := must[api.Bounds](t)(tow.Stop(x.mass, x.power, x.grip, speed+g.Intn(api.MaxSpeed-speed+1)))
		if heavier.Low < way.Low || heavier.High < way.High || faster.Low < way.Low || faster.High < way.High {
			t.Fatalf("%v, speed %d: %v, heavier %v, faster %v", x, speed, way, heavier, faster)
		}
	}
}
