package rosin

import (
	"cmp"
	"slices"

	"pinaster/api"
)

// offer is a blend that is sold as a grade.
type offer struct {
	blend
	grade
}

// Profit returns the grade and the blend with the greatest gain.
func Profit(l []api.RosinGrade, b []api.RosinBatch, many int) (grade int, drums []int, gain int, e api.Errno) {
	if e := cmp.Or(Check(l), checkMany(many), checkBatches(b)); e != api.OK {
		return 0, nil, 0, e
	}
	var offers []offer
	for _, g := range gradesOf(l) {
		if x, found := cheapest(g, batchesOf(b), many); found {
			offers = append(offers, offer{x, g})
		}
	}
	if len(offers) == 0 {
		return 0, nil, 0, api.ErrNone
	}
	o := best(offers...)
	return o.index, slices.Clone(o.drums[:len(b)]), o.gain(), api.OK
}

func (o offer) gain() int { return o.many*o.Price - o.cost }

// best returns the first one of the offers with the greatest gain.
func best(offers ...offer) offer {
	return slices.MaxFunc(offers, func(a, b offer) int { return cmp.Compare(a.gain(), b.gain()) })
}
