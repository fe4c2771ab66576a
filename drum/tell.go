package drum

import (
	"iter"
	"slices"

	"pinaster/api"
)

// drums tells of each vessel whether it is one of some drums.
type drums [api.DrumVessels]bool

// Tests returns the fewest drums that tell stands.
func Tests(l api.DrumLog) ([]int, api.Errno) {
	p, e := pour(l)
	if e != api.OK {
		return nil, e
	}
	return fewest(p.ofKind(api.DrumDrum), p.drumsOfStands()), api.OK
}

// Suspects returns the stands that can be bad, if these drums were tested, and those are bad.
func Suspects(l api.DrumLog, tested, bad []int) ([]int, api.Errno) {
	p, e := pour(l)
	if e != api.OK {
		return nil, e
	}
	if e := checkTests(l, tested, bad); e != api.OK {
		return nil, e
	}
	var suspects []int
	for stand, d := range p.drumsOfStands() {
		if d != (drums{}) && d.among(drumsAt(tested)) == drumsAt(bad) {
			suspects = append(suspects, stand)
		}
	}
	return suspects, api.OK
}

// drumsOfStands returns the drums of each stand, by its index, and none by the index of another vessel.
func (p *poured) drumsOfStands() [api.DrumVessels]drums {
	var of [api.DrumVessels]drums
	for _, drum := range p.ofKind(api.DrumDrum) {
		for _, x := range p.rows[drum] {
			of[x.Stand][drum] = true
		}
	}
	return of
}

func drumsAt(vessels []int) drums {
	var d drums
	for _, vessel := range vessels {
		d[vessel] = true
	}
	return d
}

// among returns those of some drums that are among other ones.
func (d drums) among(other drums) drums {
	for vessel := range d {
		d[vessel] = d[vessel] && other[vessel]
	}
	return d
}

// fewest tries few drums before many, and of as many the first ones first, so that the first ones that tell stands are those.
func fewest(all []int, ofStands [api.DrumVessels]drums) (tests []int) {
trying:
	for many := range len(all) + 1 {
		for chosen := range choices(all, many) {
			if tell(drumsAt(chosen), ofStands) {
				tests = slices.Clone(chosen)
				break trying
			}
		}
	}
	return tests
}

// choices produces all lists of so many elements of a list, in its order, the first ones first. They share memory.
func choices(list []int, many int) iter.Seq[[]int] {
	return func(yield func([]int) bool) {
		var choose func(chosen, from []int) bool
		choose = func(chosen, from []int) bool {
			if len(chosen) == many {
				return yield(chosen)
			}
			for i, element := range from {
				if !choose(append(chosen, element), from[i+1:]) {
					return false
				}
			}
			return true
		}
		choose(nil, list)
	}
}

// tell reports whether drums tell stands. What is no stand has no drums, so that a stand that has some differs from it.
func tell(tested drums, ofStands [api.DrumVessels]drums) bool {
	for i, a := range ofStands {
		for _, b := range ofStands[:i] {
			if a != b && a.among(tested) == b.among(tested) {
				return false
			}
		}
	}
	return true
}
