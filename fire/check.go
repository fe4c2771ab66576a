// Package fire says whether crews are out of a forest before a fire reaches them: fires, lookouts, routes, and lines that are cut.
package fire

import (
	"slices"

	"pinaster/api"
)

// nobody is the watch without lookouts.
const nobody = 0

// Check checks a land.
func Check(l api.FireLand) api.Errno {
	if !isFrom(l.Places, 1, api.FirePlaces) || len(l.Ways) > api.FireWays || len(l.Sees) != l.Places {
		return api.ErrFireLand
	}
	for i, w := range l.Ways {
		if !isWay(l, w) || wayBetween(l.Ways[:i], w.A, w.B) != none {
			return api.ErrFireLand
		}
	}
	for _, set := range slices.Concat([]int{l.Exits, l.Risks}, l.Sees) {
		if !isSet(l, set) {
			return api.ErrFireLand
		}
	}
	return api.OK
}

func isWay(l api.FireLand, w api.FireWay) bool {
	return isPlace(l, w.A) && isPlace(l, w.B) && w.A != w.B && isFrom(w.Walk, 0, api.FireWalk) &&
		w.Burn.Low >= 1 && w.Burn.High <= api.FireBurn && w.Burn.Low <= w.Burn.High
}

// checkAsked checks a land, a watch, and places.
func checkAsked(l api.FireLand, watch int, places ...int) api.Errno {
	if e := Check(l); e != api.OK {
		return e
	}
	if !isSet(l, watch) {
		return api.ErrFirePlace
	}
	for _, place := range places {
		if !isPlace(l, place) {
			return api.ErrFirePlace
		}
	}
	return api.OK
}

func checkTruth(l api.FireLand, burn []int) api.Errno {
	if len(burn) != len(l.Ways) {
		return api.ErrFireTruth
	}
	for way, w := range l.Ways {
		if !isFrom(burn[way], w.Burn.Low, w.Burn.High) {
			return api.ErrFireTruth
		}
	}
	return api.OK
}

func checkRoute(l api.FireLand, route []int) api.Errno {
	if !isFrom(len(route), 1, api.FirePlaces) {
		return api.ErrFireRoute
	}
	for i, place := range route {
		if !isPlace(l, place) || slices.Contains(route[:i], place) {
			return api.ErrFireRoute
		}
	}
	for way := range legs(l.Ways, route) {
		if way == none || l.Ways[way].Walk == 0 {
			return api.ErrFireRoute
		}
	}
	if !has(l.Exits, last(route)) {
		return api.ErrFireRoute
	}
	return api.OK
}

func checkCrews(l api.FireLand, crews []int) api.Errno {
	if len(crews) > api.FireCrews {
		return api.ErrFireCrews
	}
	before := 0
	for _, place := range crews {
		if !isFrom(place, before, l.Places-1) {
			return api.ErrFireCrews
		}
		before = place
	}
	return api.OK
}

func isFrom(n, least, most int) bool { return n >= least && n <= most }

func isPlace(l api.FireLand, place int) bool { return isFrom(place, 0, l.Places-1) }

func isSet(l api.FireLand, set int) bool { return isFrom(set, 0, 1<<l.Places-1) }
