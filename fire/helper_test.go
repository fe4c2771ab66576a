package fire_test

import (
	"math"
	"slices"

	"pinaster/api"
	"pinaster/fire"
)

// odd are numbers that no place is, and no set of places.
var odd = []int{-1, -2, math.MinInt, math.MaxInt, math.MinInt32, math.MaxInt32}

func span(low, high int) api.Span { return api.Span{Low: low, High: high} }

// land is that of the chapter's examples.
func land() api.FireLand {
	return api.FireLand{
		Places: 5,
		Ways: []api.FireWay{
			{A: 0, B: 1, Burn: span(10, 20), Walk: 5},
			{A: 1, B: 2, Burn: span(10, 30), Walk: 5},
			{A: 2, B: 3, Burn: span(20, 20), Walk: 10},
			{A: 0, B: 4, Burn: span(5, 10), Walk: 0},
			{A: 3, B: 4, Burn: span(60, 90), Walk: 20},
		},
		Exits: 8, Risks: 1, Sees: []int{0, 3, 0, 12, 16},
	}
}

// wrongLand is wrong in one thing that is easily left out.
func wrongLand() api.FireLand {
	l := land()
	l.Sees[4] = 32
	return l
}

func cloneLand(l api.FireLand) api.FireLand {
	l.Ways, l.Sees = slices.Clone(l.Ways), slices.Clone(l.Sees)
	return l
}

// plain is a land in which each lookout sees its own place, the fire begins on 0, and all ways are walked in 10 minutes, and burn in 10 to 20.
func plain(places int, ways ...[2]int) api.FireLand {
	l := api.FireLand{Places: places, Risks: 1}
	for k := range places {
		l.Sees = append(l.Sees, 1<<k)
	}
	for _, w := range ways {
		l.Ways = append(l.Ways, api.FireWay{A: w[0], B: w[1], Burn: span(10, 20), Walk: 10})
	}
	return l
}

// dice throws the same numbers in each run of the tests.
type dice struct{ seed uint64 }

// upTo throws a number from 0 to most.
func (d *dice) upTo(most int) int {
	d.seed = d.seed*6364136223846793005 + 1442695040888963407
	return int(d.seed >> 33 % uint64(most+1))
}

func (d *dice) from(least, most int) int { return least + d.upTo(most-least) }

func (d *dice) span(least, most int) api.Span {
	low := d.from(least, most)
	return span(low, d.from(low, most))
}

// someOf throws a set of places of which each has one of so many chances.
func (d *dice) someOf(places, chances int) int {
	set := 0
	for k := range places {
		if d.upTo(chances-1) == 0 {
			set |= 1 << k
		}
	}
	return set
}

// land throws a valid land with at most so many ways; fire needs up to so many minutes for a way.
func (d *dice) land(places, ways, burn int) api.FireLand {
	l := api.FireLand{Places: places, Exits: d.someOf(places, 3), Risks: d.someOf(places, 3)}
	var pairs [][2]int
	for a := range places {
		for b := range a {
			pairs = append(pairs, [2]int{a, b})
		}
	}
	for len(pairs) > 0 && len(l.Ways) < ways {
		i := d.upTo(len(pairs) - 1)
		w := api.FireWay{A: pairs[i][0], B: pairs[i][1], Burn: d.span(1, burn), Walk: d.upTo(burn / 2)}
		if d.upTo(1) == 0 {
			w.A, w.B = w.B, w.A
		}
		l.Ways = append(l.Ways, w)
		pairs = slices.Delete(pairs, i, i+1)
	}
	for range places {
		l.Sees = append(l.Sees, d.someOf(places, 3))
	}
	return l
}

// narrower throws a land with spans that lie in those of a land.
func (d *dice) narrower(l api.FireLand) api.FireLand {
	l = cloneLand(l)
	for i, w := range l.Ways {
		l.Ways[i].Burn = d.span(w.Burn.Low, w.Burn.High)
	}
	return l
}

// crews throws some crews of a land.
func (d *dice) crews(places, most int) []int {
	var crews []int
	for range d.upTo(most) {
		crews = append(crews, d.upTo(places-1))
	}
	slices.Sort(crews)
	return crews
}

// truth throws what can truly be in a land.
func (d *dice) truth(l api.FireLand) []int {
	var truth []int
	for _, w := range l.Ways {
		truth = append(truth, d.from(w.Burn.Low, w.Burn.High))
	}
	return truth
}

// truths are all truths of a land; corners are those of them that have an end of its span for each way.
func truths(l api.FireLand) [][]int {
	return product(l, func(s api.Span) []int {
		var all []int
		for n := s.Low; n <= s.High; n++ {
			all = append(all, n)
		}
		return all
	})
}

func corners(l api.FireLand) [][]int {
	return product(l, func(s api.Span) []int { return slices.Compact([]int{s.Low, s.High}) })
}

func product(l api.FireLand, of func(api.Span) []int) [][]int {
	all := [][]int{nil}
	for _, w := range l.Ways {
		var longer [][]int
		for _, truth := range all {
			for _, n := range of(w.Burn) {
				longer = append(longer, append(slices.Clone(truth), n))
			}
		}
		all = longer
	}
	return all
}

// far is later than all that happens.
const far = 1 << 30

// comes tells in its own way when a fire comes to each place with a truth, if some ways are cut: far, if it never does.
func comes(l api.FireLand, cut int, truth []int, from int) []int {
	after := slices.Repeat([]int{far}, l.Places)
	after[from] = 0
	for range l.Places {
		for i, w := range l.Ways {
			if cut>>i&1 == 0 {
				after[w.B] = min(after[w.B], after[w.A]+truth[i])
				after[w.A] = min(after[w.A], after[w.B]+truth[i])
			}
		}
	}
	return after
}

// fires are when each fire comes to each place with each of some truths.
type fires struct {
	api.FireLand
	comes [][][]int // by place where it begins, and truth
}

func firesOf(l api.FireLand, cut int, truths [][]int) fires {
	f := fires{l, make([][][]int, l.Places)}
	for from := range l.Places {
		for _, truth := range truths {
			f.comes[from] = append(f.comes[from], comes(l, cut, truth, from))
		}
	}
	return f
}

// alarm is when the alarm is, if the places on fire are known: far, if there is none.
func (f fires) alarm(watch int, comes []int) int {
	alarm := far
	for lookout, sees := range f.Sees {
		for place, minute := range comes {
			if watch>>lookout&1 == 1 && sees>>place&1 == 1 {
				alarm = min(alarm, minute)
			}
		}
	}
	return alarm
}

// margin tries all truths: far, if there is none.
func (f fires) margin(watch, from, place int) int {
	margin := far
	for _, comes := range f.comes[from] {
		alarm := f.alarm(watch, comes)
		switch {
		case comes[place] >= far:
		case alarm >= far:
			margin = min(margin, 0)
		default:
			margin = min(margin, comes[place]-alarm)
		}
	}
	return margin
}

// deadlines are far where there is none.
func (f fires) deadlines(watch int) []int {
	deadlines := slices.Repeat([]int{far}, f.Places)
	for from := range f.Places {
		for place := range f.Places {
			if f.Risks>>from&1 == 1 {
				deadlines[place] = min(deadlines[place], f.margin(watch, from, place))
			}
		}
	}
	return deadlines
}

// walkBetween is how long people walk from one place to another one by one way: 0, if they cannot.
func walkBetween(l api.FireLand, a, b int) int {
	for _, w := range l.Ways {
		if w.A == a && w.B == b || w.A == b && w.B == a {
			return w.Walk
		}
	}
	return 0
}

// times are those to the places of a list; ok tells whether people can walk so.
func times(l api.FireLand, list []int) (all []int, ok bool) {
	time := 0
	for i, place := range list {
		if i > 0 {
			walk := walkBetween(l, list[i-1], place)
			if walk == 0 {
				return nil, false
			}
			time += walk
		}
		all = append(all, time)
	}
	return all, true
}

// walks are all lists of places, no place twice, that people can walk from a place, in the order of lists.
func walks(l api.FireLand, from int) [][]int {
	all, last := [][]int{{from}}, [][]int{{from}}
	for range l.Places {
		var longer [][]int
		for _, list := range last {
			for place := range l.Places {
				more := append(slices.Clone(list), place)
				if _, ok := times(l, more); ok && !slices.Contains(list, place) {
					longer = append(longer, more)
				}
			}
		}
		all, last = append(all, longer...), longer
	}
	slices.SortFunc(all, slices.Compare[[]int])
	return all
}

// inTime tells whether people who walk so are at each place before its deadline.
func inTime(l api.FireLand, deadlines, list []int) bool {
	all, _ := times(l, list)
	for i, place := range list {
		if all[i] >= deadlines[place] {
			return false
		}
	}
	return true
}

func isExit(l api.FireLand, place int) bool { return l.Exits>>place&1 == 1 }

// routeOf tries all walks.
func routeOf(l api.FireLand, deadlines []int, from int) (route []int, minutes int, e api.Errno) {
	e = api.ErrNone
	for _, list := range walks(l, from) {
		all, _ := times(l, list)
		end := len(list) - 1
		if isExit(l, list[end]) && inTime(l, deadlines, list) && (e == api.ErrNone || all[end] < minutes) {
			route, minutes, e = list, all[end], api.OK
		}
	}
	return route, minutes, e
}

// reachedOf tells of each place when it is first reached in time: far, if it is not.
func reachedOf(l api.FireLand, deadlines []int, from int) []int {
	reached := slices.Repeat([]int{far}, l.Places)
	for _, list := range walks(l, from) {
		all, _ := times(l, list)
		end := len(list) - 1
		if inTime(l, deadlines, list) {
			reached[list[end]] = min(reached[list[end]], all[end])
		}
	}
	return reached
}

func areSafe(l api.FireLand, deadlines, crews []int) bool {
	for _, crew := range crews {
		if _, _, e := routeOf(l, deadlines, crew); e != api.OK {
			return false
		}
	}
	return true
}

// elements of a set, increasing.
func elements(set int) []int {
	var all []int
	for k := range 12 {
		if set>>k&1 == 1 {
			all = append(all, k)
		}
	}
	return all
}

// question is what all functions are asked.
type question struct {
	l                  api.FireLand
	watch, from, place int
	burn, route, crews []int
}

func ask() question {
	return question{land(), 2, 1, 3, []int{10, 10, 20, 5, 60}, []int{1, 2, 3}, []int{1, 2}}
}

// names are the functions, in the order of answers.
var names = []string{"Check", "Follow", "Comes", "Margin", "Deadlines", "Walks", "Route", "Caught", "Safe", "Watch", "Lines"}

// answers are the errors that all functions return: -1 where another result is not zero with an error.
func (q question) answers() []api.Errno {
	zeroWith := func(e api.Errno, zero bool) api.Errno {
		if e != api.OK && !zero {
			return -1
		}
		return e
	}
	list, e1 := fire.Follow(q.l, q.from, q.burn)
	s, e2 := fire.Comes(q.l, q.from, q.place)
	margin, e3 := fire.Margin(q.l, q.watch, q.from, q.place)
	deadlines, some, e4 := fire.Deadlines(q.l, q.watch)
	walks, e5 := fire.Walks(q.l, q.watch, q.route)
	route, minutes, e6 := fire.Route(q.l, q.watch, q.from)
	caught, e7 := fire.Caught(q.l, q.watch, q.from)
	safe, e8 := fire.Safe(q.l, q.watch, q.crews)
	watch, e9 := fire.Watch(q.l, q.crews)
	lines, e10 := fire.Lines(q.l, q.watch, q.crews)
	return []api.Errno{
		fire.Check(q.l),
		zeroWith(e1, len(list) == 0),
		zeroWith(e2, s == api.Span{}),
		zeroWith(e3, margin == 0),
		zeroWith(e4, len(deadlines) == 0 && some == 0),
		zeroWith(e5, !walks),
		zeroWith(e6, len(route) == 0 && minutes == 0),
		zeroWith(e7, len(caught) == 0),
		zeroWith(e8, !safe),
		zeroWith(e9, watch == 0),
		zeroWith(e10, len(lines) == 0),
	}
}
