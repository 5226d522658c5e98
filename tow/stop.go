package tow

import (
	"thalweg/api"
	"thalweg/whole"
)

// stopWay returns how many meters a tow needs to stop with a grip, as n / by.
func stopWay(mass, power, grip, speed int) (n, by int) {
	by = 2592 * power * grip
	// What is made good in the minute before the screws work is 5 / 3 of the speed; by is a multiple of 3.
	return by/3*5*speed + mass*1000*speed*speed, by
}

// stop returns the bounds of how many meters a tow needs to stop.
func stop(mass, power int, grip api.Bounds, speed int) api.Bounds {
	low, by := stopWay(mass, power, grip.High, speed)
	b := api.Bounds{Low: low / by}
	high, by := stopWay(mass, power, grip.Low, speed)
	b.High = whole.Up(high, by)
	return b
}
