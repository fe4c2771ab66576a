package rights

import (
	"cmp"
	"slices"

	"pinaster/api"
)

// late is a year after all in which plots can be felled.
const late = api.FellAge + 1

// plot is one that is felled, and its index.
type plot struct {
	api.FellPlot
	index int
}

// years tells of each plot in which year it is felled.
type years [api.FellPlots]int

// Fell returns in which years plots are felled.
func Fell(l []api.FellPlot, many int) ([]int, api.Errno) {
	if e := cmp.Or(checkPlots(l), checkMany(many)); e != api.OK {
		return nil, e
	}
	plots := plotsOf(l)
	y := fell(plots, many)
	if y != y.limitedTo(plots) {
		return nil, api.ErrNone
	}
	return slices.Clone(y[:len(l)]), api.OK
}

// Glut returns the first years in which too many plots must be felled.
func Glut(l []api.FellPlot, many int) (from, to int, e api.Errno) {
	if e := cmp.Or(checkPlots(l), checkMany(many)); e != api.OK {
		return 0, 0, e
	}
	plots := plotsOf(l)
	for from := range late {
		for to := from; to < late; to++ {
			if boundTo(plots, from, to) > many*(to-from+1) {
				return from, to, api.OK
			}
		}
	}
	return 0, 0, api.ErrNone
}

func plotsOf(l []api.FellPlot) []plot {
	var list []plot
	for i, x := range l {
		list = append(list, plot{x, i})
	}
	return list
}

// fell fells, year by year, as many as it may of the plots whose first year has come, those first that can wait least. A plot is felled too late then only if there are no felling years at all.
func fell(plots []plot, many int) years {
	var y years
	for i := range y {
		y[i] = late
	}
	for year := range late {
		var ready []plot
		for _, p := range plots {
			if p.first() <= year && y[p.index] == late {
				ready = append(ready, p)
			}
		}
		for _, p := range foremost(ready, many, plot.last) {
			y[p.index] = year
		}
	}
	return y
}

// limitedTo changes the years in which plots cannot be felled to ones in which they can.
func (y years) limitedTo(plots []plot) years {
	for _, p := range plots {
		y[p.index] = max(p.first(), min(p.last(), y[p.index]))
	}
	return y
}

// boundTo returns how many plots can be felled in some years alone.
func boundTo(plots []plot, from, to int) int {
	bound := 0
	for _, p := range plots {
		if p.first() >= from && p.last() <= to {
			bound++
		}
	}
	return bound
}

// first returns the first year in which a plot can be felled.
func (p plot) first() int { return max(0, p.Ages.Low-p.Age) }

// last returns the last year in which a plot can be felled.
func (p plot) last() int { return p.Ages.High - p.Age }

// foremost returns so many items with the least numbers, or all if there are no more.
func foremost[T any](list []T, many int, number func(T) int) []T {
	sorted := slices.Clone(list)
	slices.SortStableFunc(sorted, func(a, b T) int { return cmp.Compare(number(a), number(b)) })
	return sorted[:min(many, len(sorted))]
}
