package rights_test

import (
	"math"
	"slices"
	"strconv"

	"pinaster/api"
	"pinaster/rights"
)

// odd are numbers that are in nothing of rights.
var odd = []int{-1, -2, math.MinInt, math.MaxInt, math.MinInt32, math.MinInt + 1, math.MaxInt - 1}

// manyDays are those of more years than any two rights need until all comes again.
const manyDays = 75 * 360

// rule is that of the chapter's examples.
func rule() api.RightsRule { return resting(5, 8, 0, 8, 5) }

func resting(rest int, bars ...int) api.RightsRule {
	return api.RightsRule{Bars: [4]int(bars), Rest: rest}
}

// tap, cow, bee and cep are the rights of the chapter's examples.
func tap() api.Right {
	return api.Right{Name: "tap", Use: api.UseResin, Plots: 3, From: 60, To: 240, Every: 2}
}

func cow() api.Right {
	return api.Right{Name: "cow", Use: api.UsePasture, Plots: 6, From: 244, To: 300, Every: 3, Offset: 1}
}

func bee() api.Right {
	return api.Right{Name: "bee", Use: api.UseHoney, Plots: 7, From: 100, To: 200, Every: 1}
}

func cep() api.Right {
	return api.Right{Name: "cep", Use: api.UseMush, Plots: 4, From: 250, To: 330, Every: 2, Offset: 1}
}

func uses() []api.Right { return []api.Right{tap(), cow(), bee(), cep()} }

// times are rights of the uses given, on the plot 0, with the names a, b and so on.
func times(l ...api.Right) []api.Right {
	for i := range l {
		l[i].Name, l[i].Plots = string(rune('a'+i)), 1
	}
	return l
}

func during(use, from, to, every, offset int) api.Right {
	return api.Right{Use: use, From: from, To: to, Every: every, Offset: offset}
}

func fixed(x api.Right) api.Right {
	x.Fixed = true
	return x
}

func plot(age, low, high int) api.FellPlot {
	return api.FellPlot{Age: age, Ages: api.Span{Low: low, High: high}}
}

// wood are the plots of the chapter's first example of felling.
func wood() []api.FellPlot {
	return []api.FellPlot{plot(70, 80, 81), plot(79, 75, 81), plot(80, 80, 90)}
}

func isHeldOn(x api.Right, day int) bool {
	year, day := day/360, day%360
	return day >= x.From && day <= x.To && year >= x.Offset && (year-x.Offset)%x.Every == 0
}

// areBarred reports whether the uses of two rights do not bear each other, and they have a plot in common.
func areBarred(r api.RightsRule, x, y api.Right) bool {
	common := false
	for p := range 12 {
		common = common || x.Plots>>p&1+y.Plots>>p&1 == 2
	}
	return common && r.Bars[x.Use]>>y.Use&1 == 1
}

// crossesOf are the first day on which each two rights cross, found by going from day to day.
func crossesOf(r api.RightsRule, l []api.Right) map[[2]int]int {
	crosses := map[[2]int]int{}
	last := slices.Repeat([]int{-1000}, len(l))
	for day := range manyDays {
		for i, x := range l {
			if isHeldOn(x, day) {
				last[i] = day
			}
		}
		for i, x := range l {
			for k, y := range l {
				_, have := crosses[[2]int{i, k}]
				if i != k && !have && areBarred(r, x, y) && max(last[i], last[k]) == day && min(last[i], last[k]) >= day-r.Rest {
					crosses[[2]int{i, k}] = day
				}
			}
		}
	}
	return crosses
}

// firstPlaces are the first places that fit, found by trying all offsets in their order, or nil.
func firstPlaces(r api.RightsRule, l []api.Right) []int {
	known := map[[4]int]bool{}
	cross := func(i, k, offset, other int) bool {
		key := [4]int{i, k, offset, other}
		if _, have := known[key]; !have {
			x, y := l[i], l[k]
			x.Offset, y.Offset = offset, other
			known[key] = areBarred(r, x, y) && len(crossesOf(r, []api.Right{x, y})) > 0
		}
		return known[key]
	}
	for _, offsets := range allOffsets(l) {
		fit := true
		for i := range l {
			for k := range i {
				fit = fit && !cross(i, k, offsets[i], offsets[k])
			}
		}
		if fit {
			return offsets
		}
	}
	return nil
}

// allOffsets are all offsets that rights may have, the first ones first.
func allOffsets(l []api.Right) [][]int {
	all := [][]int{{}}
	for _, x := range l {
		var next [][]int
		for _, offsets := range all {
			for offset := range x.Every {
				if !x.Fixed || offset == x.Offset {
					next = append(next, append(slices.Clone(offsets), offset))
				}
			}
		}
		all = next
	}
	return all
}

// canBeFelled are the years in which a plot can be felled.
func canBeFelled(p api.FellPlot) []int {
	var list []int
	for year := range 201 {
		if p.Age+year >= p.Ages.Low && p.Age+year <= p.Ages.High {
			list = append(list, year)
		}
	}
	return list
}

// areFellingYears reports whether years are ones of plots.
func areFellingYears(l []api.FellPlot, many int, list []int) bool {
	felled := map[int]int{}
	for i, year := range list {
		felled[year]++
		if i >= len(l) || felled[year] > many || !slices.Contains(canBeFelled(l[i]), year) {
			return false
		}
	}
	return len(list) == len(l)
}

// haveFellingYears reports whether plots have felling years, found by trying all of them.
func haveFellingYears(l []api.FellPlot, many int) bool {
	felled := map[int]int{}
	var find func(index int) bool
	find = func(index int) bool {
		if index == len(l) {
			return true
		}
		for _, year := range canBeFelled(l[index]) {
			if felled[year] == many {
				continue
			}
			felled[year]++
			if find(index + 1) {
				return true
			}
			felled[year]--
		}
		return false
	}
	return find(0)
}

// firstGlut is the first glut, found by trying all years.
func firstGlut(l []api.FellPlot, many int) (from, to int, found bool) {
	var years [][]int
	for _, p := range l {
		years = append(years, canBeFelled(p))
	}
	for from := range 201 {
		for to := from; to <= 200; to++ {
			bound := 0
			for _, list := range years {
				if list[0] >= from && list[len(list)-1] <= to {
					bound++
				}
			}
			if bound > many*(to-from+1) {
				return from, to, true
			}
		}
	}
	return 0, 0, false
}

// dice throws the same numbers in each run of the tests.
type dice struct{ seed uint64 }

// upTo throws a number from 0 to most.
func (d *dice) upTo(most int) int {
	d.seed = d.seed*6364136223846793005 + 1442695040888963407
	return int(d.seed >> 33 % uint64(most+1))
}

func (d *dice) from(least, most int) int { return least + d.upTo(most-least) }

// rule throws a rule in which about so many of ten pairs of uses do not bear each other.
func (d *dice) rule(barred int) api.RightsRule {
	r := api.RightsRule{Rest: d.upTo(60)}
	for u := range 4 {
		for v := range u + 1 {
			if d.upTo(9) < barred {
				r.Bars[u] |= 1 << v
				r.Bars[v] |= 1 << u
			}
		}
	}
	return r
}

// rights throws rights that last at most so many days.
func (d *dice) rights(many, every, days int) []api.Right {
	var l []api.Right
	for i := range many {
		x := api.Right{Name: "r" + strconv.Itoa(i), Use: d.upTo(3), Plots: d.from(1, 4095), Every: d.from(1, every), Fixed: d.upTo(5) == 0}
		x.From, x.Offset = d.upTo(359), d.upTo(x.Every-1)
		x.To = d.from(x.From, min(359, x.From+days-1))
		l = append(l, x)
	}
	return l
}

// plots throws plots that are to be felled in so many years, most of them within a few.
func (d *dice) plots(many, years, few int) []api.FellPlot {
	var l []api.FellPlot
	for range many {
		age := d.upTo(200 - years)
		first := age + d.upTo(years)
		l = append(l, plot(age, max(0, first-d.upTo(1)*d.upTo(10)), d.from(first, min(age+years, first+few))))
	}
	return l
}

// question is what all functions are asked.
type question struct {
	r                api.RightsRule
	l                []api.Right
	right, year, day int
	use, plot        int
	a, b             int
	plots            []api.FellPlot
	many             int
}

func ask() question {
	return question{r: rule(), l: uses(), right: 1, year: 4, day: 244, use: 1, plot: 1, a: 0, b: 1, plots: wood(), many: 1}
}

// names are the functions, in the order of answers.
var names = []string{"CheckRule", "Check", "Held", "Days", "Cross", "Crosses", "Place", "Fell", "Glut"}

// answers are the errors that all functions return: OK where there is none of what is asked for, -1 where another result is not zero with an error.
func (q question) answers() []api.Errno {
	zeroWith := func(e api.Errno, zero bool) api.Errno {
		switch {
		case e != api.OK && !zero:
			return -1
		case e == api.ErrNone:
			return api.OK
		}
		return e
	}
	is, e1 := rights.Held(q.l, q.right, q.year, q.day)
	days, e2 := rights.Days(q.l, q.use, q.plot, q.year)
	day, e3 := rights.Cross(q.r, q.l, q.a, q.b)
	meets, e4 := rights.Crosses(q.r, q.l)
	places, e5 := rights.Place(q.r, q.l)
	years, e6 := rights.Fell(q.plots, q.many)
	from, to, e7 := rights.Glut(q.plots, q.many)
	return []api.Errno{
		rights.CheckRule(q.r),
		rights.Check(q.l),
		zeroWith(e1, !is),
		zeroWith(e2, days == 0),
		zeroWith(e3, day == 0),
		zeroWith(e4, len(meets) == 0),
		zeroWith(e5, len(places) == 0),
		zeroWith(e6, len(years) == 0),
		zeroWith(e7, from == 0 && to == 0),
	}
}
