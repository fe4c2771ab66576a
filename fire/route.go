package fire

import (
	"cmp"

	"pinaster/api"
)

// Walks reports whether a route is safe.
func Walks(l api.FireLand, watch int, route []int) (bool, api.Errno) {
	if e := cmp.Or(checkAsked(l, watch), checkRoute(l, route)); e != api.OK {
		return false, e
	}
	n := landOf(l)
	return n.walk(route, n.deadlines(watch)) < never, api.OK
}

// Route returns the safe route from a place with the least time.
func Route(l api.FireLand, watch, from int) (route []int, minutes int, e api.Errno) {
	if e := checkAsked(l, watch, from); e != api.OK {
		return nil, 0, e
	}
	n := landOf(l)
	route, minutes = n.fastest(from, n.deadlines(watch))
	if minutes == never {
		return nil, 0, api.ErrNone
	}
	return route, minutes, api.OK
}

// Caught returns all places that can be reached in time, if there is no safe route.
func Caught(l api.FireLand, watch, from int) ([]int, api.Errno) {
	if e := checkAsked(l, watch, from); e != api.OK {
		return nil, e
	}
	n := landOf(l)
	reached := n.reach(from, n.deadlines(watch))
	if n.isOut(reached) {
		return nil, api.ErrNone
	}
	var places []int
	for place, minute := range reached {
		if minute < never {
			places = append(places, place)
		}
	}
	return places, api.OK
}

// walk returns the time to the last place of a route: never, if it comes to some place too late.
func (l land) walk(route []int, deadlines minutes) int {
	time := 0
	if time >= deadlines[route[0]] {
		return never
	}
	for way, to := range legs(l.Ways, route) {
		time += l.Ways[way].Walk
		if time >= deadlines[to] {
			return never
		}
	}
	return time
}

// fastest returns the safe route with the least time: never, if there is none.
func (l land) fastest(from int, deadlines minutes) (route []int, time int) {
	time = never
	for path := range l.paths(from, people(l.Ways)) {
		if walk := l.walk(path, deadlines); has(l.Exits, last(path)) && walk < time {
			route, time = path, walk
		}
	}
	return route, time
}

// reach returns when people from a place come first to each place that can be reached in time.
func (l land) reach(from int, deadlines minutes) minutes {
	return l.spread(from, people(l.Ways), deadlines)
}

// isOut reports whether an exit is reached. Then there is a safe route, because who comes to a place first does so in time all the way.
func (l land) isOut(reached minutes) bool { return reached.first(l.Exits) < never }
