package fire

import (
	"cmp"
	"iter"
	"slices"

	"pinaster/api"
)

// never is the minute of what does not happen: it is greater than the minutes of all ways together.
const never = 1 << 20

// none stands for a way that there is not.
const none = -1

// minutes tells of each place when something comes to it, or must be gone from it.
type minutes [api.FirePlaces]int

// pace is how many minutes something takes for each way: never, if it cannot pass.
type pace interface{ takes(way int) int }

// blaze is the pace of fire.
type blaze [api.FireWays]int

// people is the pace of those who walk along some ways.
type people []api.FireWay

// land is a land with ways that are cut (bits), and what is known of its fires.
type land struct {
	api.FireLand
	cut    int
	rushes map[int][]rush
	known  map[asked]int
}

func landOf(l api.FireLand) land { return landWithout(l, 0) }

func landWithout(l api.FireLand, cut int) land {
	return land{FireLand: l, cut: cut, rushes: map[int][]rush{}, known: map[asked]int{}}
}

func (b blaze) takes(way int) int { return b[way] }

func (p people) takes(way int) int {
	if p[way].Walk == 0 {
		return never
	}
	return p[way].Walk
}

// blaze returns the pace of fire with the same end of each span; it does not pass ways that are cut.
func (l land) blaze(end func(api.Span) int) blaze {
	var b blaze
	for way, w := range l.Ways {
		b[way] = end(w.Burn)
		if has(l.cut, way) {
			b[way] = never
		}
	}
	return b
}

func low(s api.Span) int { return s.Low }

func high(s api.Span) int { return s.High }

// nevers stands for deadlines where there are none, and for what comes nowhere.
func nevers() minutes {
	var m minutes
	for place := range m {
		m[place] = never
	}
	return m
}

// spread tells when something that begins at a place comes to each place, over places to which it comes before their deadlines.
func (l land) spread(from int, p pace, deadlines minutes) minutes {
	now := nevers()
	now.come(from, 0, deadlines)
spreading:
	for {
		before := now
		for way, w := range l.Ways {
			now.come(w.A, now[w.B]+p.takes(way), deadlines)
			now.come(w.B, now[w.A]+p.takes(way), deadlines)
		}
		if now == before {
			break spreading
		}
	}
	return now
}

func (m *minutes) come(place, minute int, deadlines minutes) {
	if minute < deadlines[place] {
		m[place] = least(m[place], minute)
	}
}

// first returns the first minute of some places: never, if there is none.
func (m minutes) first(places int) int {
	minute := never
	for place := range in(places) {
		minute = least(minute, m[place])
	}
	return minute
}

// paths produces all paths from a place that can be passed, no place twice, in the order of their lists.
func (l land) paths(from int, p pace) iter.Seq[[]int] {
	return func(yield func([]int) bool) {
		var extend func(path []int) bool
		extend = func(path []int) bool {
			if !yield(slices.Clone(path)) {
				return false
			}
			for way, to := range waysOf(l.Ways, last(path)) {
				if p.takes(way) < never && !slices.Contains(path, to) && !extend(append(path, to)) {
					return false
				}
			}
			return true
		}
		extend([]int{from})
	}
}

// waysOf produces the ways of a place, and where they lead to, which increases.
func waysOf(ways []api.FireWay, place int) iter.Seq2[int, int] {
	return func(yield func(way, to int) bool) {
		for to := range api.FirePlaces {
			if way := wayBetween(ways, place, to); way != none && !yield(way, to) {
				return
			}
		}
	}
}

// legs produces the ways by which the places of a path follow each other, and where they lead to.
func legs(ways []api.FireWay, path []int) iter.Seq2[int, int] {
	return func(yield func(way, to int) bool) {
		for i, to := range path[1:] {
			if !yield(wayBetween(ways, path[i], to), to) {
				return
			}
		}
	}
}

func wayBetween(ways []api.FireWay, a, b int) int {
	return slices.IndexFunc(ways, func(w api.FireWay) bool {
		return w.A == a && w.B == b || w.A == b && w.B == a
	})
}

// in produces the elements of a set of places.
func in(places int) iter.Seq[int] {
	return func(yield func(int) bool) {
		for place := range api.FirePlaces {
			if has(places, place) && !yield(place) {
				return
			}
		}
	}
}

func has(set, k int) bool { return set>>k&1 == 1 }

func last(path []int) int { return path[len(path)-1] }

func least[N cmp.Ordered](first N, others ...N) N {
	for _, n := range others {
		first = min(first, n)
	}
	return first
}
