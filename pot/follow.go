package pot

import (
	"cmp"
	"slices"

	"pinaster/api"
)

// drops are some resin, and some water.
type drops struct{ resin, water int }

// contents are what was carried away from a pot, what ran over, and what is left in it.
type contents struct{ carried, over, left drops }

// Follow returns what pots yield, with a truth and a plan.
func Follow(r api.PotRun, t api.PotTruth, plan [][]int) ([]api.PotYield, api.Errno) {
	if e := cmp.Or(Check(r), checkPlan(r, plan), checkTruth(r, t)); e != api.OK {
		return nil, e
	}
	var yields []api.PotYield
	for pot := range r.Pots {
		c := follow(r, t, plan, pot)
		yields = append(yields, api.PotYield{
			Resin: c.carried.resin, Water: c.carried.water,
			OverResin: c.over.resin, OverWater: c.over.water,
			LeftResin: c.left.resin, LeftWater: c.left.water,
		})
	}
	return yields, api.OK
}

// Keeps returns the pots that a plan keeps.
func Keeps(r api.PotRun, plan [][]int) ([]int, api.Errno) {
	if e := cmp.Or(Check(r), checkPlan(r, plan)); e != api.OK {
		return nil, e
	}
	var kept []int
	t := worst(r)
	for pot := range r.Pots {
		if follow(r, t, plan, pot).over == (drops{}) {
			kept = append(kept, pot)
		}
	}
	return kept, api.OK
}

// worst returns the truth in which most comes into each pot: one that does not run over in it does so in none.
func worst(r api.PotRun) api.PotTruth {
	var t api.PotTruth
	for _, d := range r.Days {
		t.Warm = append(t.Warm, d.Warm.High)
		t.Rain = append(t.Rain, d.Rain.High)
	}
	for _, p := range r.Pots {
		t.Has = append(t.Has, p.Has.High)
	}
	return t
}

func follow(r api.PotRun, t api.PotTruth, plan [][]int, pot int) contents {
	h := hang(r, pot)
	c := contents{left: drops{resin: t.Has[pot]}}
	for day := range len(r.Days) {
		if slices.Contains(plan[day], pot) {
			c.carried = c.carried.plus(c.left)
			c.left = drops{}
		}
		c.left = c.left.plus(drops{h.resin(t.Warm[day]), h.water(t.Rain[day])})
		lost := c.left.above(h.Size)
		c.over = c.over.plus(lost)
		c.left = c.left.less(lost)
	}
	return c
}

func (d drops) plus(o drops) drops { return drops{d.resin + o.resin, d.water + o.water} }

func (d drops) less(o drops) drops { return drops{d.resin - o.resin, d.water - o.water} }

// above returns what a pot of some size does not hold.
func (d drops) above(size int) drops {
	lost := max(0, d.resin+d.water-size)
	water := min(lost, d.water)
	return drops{lost - water, water}
}
