package purse

import (
	"cmp"
	"slices"

	"pinaster/api"
)

// division is villages, and how many barrels each one has, by its index.
type division struct {
	villages []api.PurseVillage
	barrels  map[int]int
}

// claimant is who may have the best right to the next barrel.
type claimant interface{ right() quotient }

// village is one that may have more barrels than it has.
type village struct {
	api.PurseVillage
	barrels int
}

// full is a village with as many barrels as its cap.
type full struct{}

// quotient is one that is not rounded.
type quotient struct{ of, by int }

// Divide returns how many barrels villages get.
func Divide(quota int, l []api.PurseVillage) ([]int, api.Errno) {
	if e := cmp.Or(checkVillages(l), checkRange(quota, 0, api.PurseBarrels), checkDivides(quota, l)); e != api.OK {
		return nil, e
	}
	d := floors(l)
	for range quota - sum(d.list()...) {
		d.barrels[d.next()]++
	}
	return d.list(), api.OK
}

// checkDivides checks that a quota is enough for all floors, and not more than all caps.
func checkDivides(quota int, l []api.PurseVillage) api.Errno {
	var least, most []int
	for _, v := range l {
		least, most = append(least, v.Floor), append(most, v.Cap)
	}
	if sum(least...) > quota || sum(most...) < quota {
		return api.ErrNone
	}
	return api.OK
}

// floors returns the division in which each village has its floor.
func floors(l []api.PurseVillage) division {
	d := division{l, map[int]int{}}
	for i, v := range l {
		d.barrels[i] = v.Floor
	}
	return d
}

func (d division) list() []int {
	var list []int
	for i := range d.villages {
		list = append(list, d.barrels[i])
	}
	return list
}

// next returns the village that gets the next barrel: the first one with the best right.
func (d division) next() int {
	var rights []quotient
	for i := range d.villages {
		rights = append(rights, d.claimant(i).right())
	}
	best := slices.MaxFunc(rights, quotient.compare)
	return slices.IndexFunc(rights, func(q quotient) bool { return q.compare(best) == 0 })
}

func (d division) claimant(index int) claimant {
	v, has := d.villages[index], d.barrels[index]
	if has == v.Cap {
		return full{}
	}
	return village{v, has}
}

func (v village) right() quotient { return quotient{v.Claim, 2*v.barrels + 1} }

// right is less than that of any village that is not full.
func (full) right() quotient { return quotient{0, 1} }

func (q quotient) compare(o quotient) int { return cmp.Compare(q.of*o.by, o.of*q.by) }
