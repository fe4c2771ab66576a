package fire

import (
	"cmp"

	"pinaster/api"
)

// asked is what a margin is asked for: what is seen, where a fire begins, and a place.
type asked struct{ seen, from, place int }

// rush is when a fire comes to each place that takes least for the ways of a path to one place, and most for all others. Of all truths in which it comes there by this path, the margin is least in this one: each minute less on the path brings the fire there a minute earlier, and the alarm at most as much; each minute more elsewhere can only delay the alarm.
type rush struct {
	place int
	comes minutes
}

// Follow returns when a fire comes to each place, with a truth.
func Follow(l api.FireLand, from int, burn []int) ([]int, api.Errno) {
	if e := cmp.Or(checkAsked(l, nobody, from), checkTruth(l, burn)); e != api.OK {
		return nil, e
	}
	var truth blaze
	copy(truth[:], burn)
	comes := landOf(l).spread(from, truth, nevers())
	var list []int
	for _, minute := range comes[:l.Places] {
		if minute == never {
			minute = -1
		}
		list = append(list, minute)
	}
	return list, api.OK
}

// Comes returns between what the minute lies at which a fire comes to a place.
func Comes(l api.FireLand, from, place int) (api.Span, api.Errno) {
	if e := checkAsked(l, nobody, from, place); e != api.OK {
		return api.Span{}, e
	}
	n := landOf(l)
	early, late := n.spread(from, n.blaze(low), nevers()), n.spread(from, n.blaze(high), nevers())
	if early[place] == never {
		return api.Span{}, api.ErrNone
	}
	return api.Span{Low: early[place], High: late[place]}, api.OK
}

// Margin returns the margin of a place.
func Margin(l api.FireLand, watch, from, place int) (int, api.Errno) {
	if e := checkAsked(l, watch, from, place); e != api.OK {
		return 0, e
	}
	n := landOf(l)
	margin := n.margin(asked{n.seen(watch), from, place})
	if margin == never {
		return 0, api.ErrNone
	}
	return margin, api.OK
}

// Deadlines returns the deadlines of all places, and which ones have one.
func Deadlines(l api.FireLand, watch int) (minutes []int, some int, e api.Errno) {
	if e := checkAsked(l, watch); e != api.OK {
		return nil, 0, e
	}
	deadlines := landOf(l).deadlines(watch)
	for place, minute := range deadlines[:l.Places] {
		if minute == never {
			minute = 0
		} else {
			some |= 1 << place
		}
		minutes = append(minutes, minute)
	}
	return minutes, some, api.OK
}

// seen returns the places that a watch sees.
func (l land) seen(watch int) int {
	seen := 0
	for place := range in(watch) {
		seen |= l.Sees[place]
	}
	return seen
}

// deadlines returns the deadlines of all places: never, where there is none.
func (l land) deadlines(watch int) minutes {
	deadlines, seen := nevers(), l.seen(watch)
	for from := range in(l.Risks) {
		for place := range l.Places {
			deadlines[place] = least(deadlines[place], l.margin(asked{seen, from, place}))
		}
	}
	return deadlines
}

// margin returns a margin: never, if there is none.
func (l land) margin(a asked) int {
	if margin, ok := l.known[a]; ok {
		return margin
	}
	margin := never
	for _, r := range l.rushesFrom(a.from) {
		if r.place == a.place {
			margin = least(margin, r.margin(a.seen))
		}
	}
	l.known[a] = margin
	return margin
}

func (r rush) margin(seen int) int {
	alarm := r.comes.first(seen)
	if alarm == never {
		return 0
	}
	return r.comes[r.place] - alarm
}

// rushesFrom returns the rushes by all paths from a place.
func (l land) rushesFrom(from int) []rush {
	if rushes, ok := l.rushes[from]; ok {
		return rushes
	}
	var rushes []rush
	slow := l.blaze(high)
	for path := range l.paths(from, slow) {
		fast := slow
		for way := range legs(l.Ways, path) {
			fast[way] = l.Ways[way].Burn.Low
		}
		rushes = append(rushes, rush{last(path), l.spread(from, fast, nevers())})
	}
	l.rushes[from] = rushes
	return rushes
}
