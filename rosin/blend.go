package rosin

import (
	"cmp"
	"iter"
	"slices"

	"pinaster/api"
)

// batch is one, and between what its quality lies.
type batch struct {
	api.RosinBatch
	spread
}

// blend is drums of batches: how many of each, how many in all, what they cost, and between what the sum of each part lies.
type blend struct {
	drums      [api.RosinBatches]int
	many, cost int
	sums       spread
}

// mean is what some drums have together, and how many they are.
type mean struct{ sum, drums int }

func (m mean) down() int { return m.sum / m.drums }

func (m mean) up() int { return (m.sum + m.drums - 1) / m.drums }

// Mix returns the spread of a blend.
func Mix(b []api.RosinBatch, drums []int) (api.Spread, api.Errno) {
	if e := checkBlend(b, drums); e != api.OK {
		return api.Spread{}, e
	}
	return blendOf(b, drums).spread().given(), api.OK
}

// Meets reports whether a blend surely meets a grade.
func Meets(l []api.RosinGrade, grade int, b []api.RosinBatch, drums []int) (bool, api.Errno) {
	if e := cmp.Or(Check(l), checkGrade(l, grade), checkBlend(b, drums)); e != api.OK {
		return false, e
	}
	return gradeAt(l, grade).isMetBy(blendOf(b, drums)), api.OK
}

// Blend returns the cheapest blend that surely meets a grade.
func Blend(l []api.RosinGrade, grade int, b []api.RosinBatch, many int) (drums []int, cost int, e api.Errno) {
	if e := cmp.Or(Check(l), checkGrade(l, grade), checkMany(many), checkBatches(b)); e != api.OK {
		return nil, 0, e
	}
	x, found := cheapest(gradeAt(l, grade), batchesOf(b), many)
	if !found {
		return nil, 0, api.ErrNone
	}
	return slices.Clone(x.drums[:len(b)]), x.cost, api.OK
}

func batchesOf(b []api.RosinBatch) []batch {
	var list []batch
	for _, x := range b {
		list = append(list, batch{x, spreadOf(x.Quality)})
	}
	return list
}

func blendOf(b []api.RosinBatch, drums []int) blend {
	var x blend
	for i, y := range batchesOf(b) {
		x = x.with(i, y, drums[i])
	}
	return x
}

// with returns the blend with some drums of the batch at an index.
func (x blend) with(index int, b batch, drums int) blend {
	x.drums[index] = drums
	x.many += drums
	x.cost += drums * b.Cost
	for part := range parts {
		x.sums.low[part] += drums * b.low[part]
		x.sums.high[part] += drums * b.high[part]
	}
	return x
}

// spread uses that no part of a blend falls when that of a batch rises.
func (x blend) spread() spread {
	s := x.sums
	for part, round := range [parts]func(mean) int{mean.up, mean.down, mean.down, mean.up} {
		s.low[part] = round(mean{s.low[part], x.many})
		s.high[part] = round(mean{s.high[part], x.many})
	}
	return s
}

func (x blend) isIn(s spread) bool { return x.spread().isIn(s) }

// fillings produces the blend with no drum of the batch at an index, with one, and so on.
func (x blend) fillings(index int, b batch) iter.Seq[blend] {
	return func(yield func(blend) bool) {
		for drums := range b.Drums + 1 {
			if !yield(x.with(index, b, drums)) {
				return
			}
		}
	}
}

// cheapest returns the first one of the cheapest blends of so many drums that surely meet a grade. It finds them in their order, so one that costs as much as the best one before it is not better.
func cheapest(g grade, b []batch, many int) (best blend, found bool) {
	var search func(x blend, index int)
	search = func(x blend, index int) {
		if index == len(b) {
			if x.many == many && g.isMetBy(x) {
				best, found = x, true
			}
			return
		}
	filling:
		for y := range x.fillings(index, b[index]) {
			if y.many > many || found && y.cost >= best.cost {
				break filling
			}
			search(y, index+1)
		}
	}
	search(blend{}, 0)
	return best, found
}
