package rights

import (
	"cmp"
	"iter"

	"pinaster/api"
)

// place is the index of a right, and an offset for it.
type place struct{ right, offset int }

// search is rights for which places are searched, and of which pairs of places it is known whether they fit.
type search struct {
	rule
	rights []api.Right
	fits   map[[2]place]bool
}

// Place returns the first places that fit.
func Place(r api.RightsRule, l []api.Right) ([]int, api.Errno) {
	if e := cmp.Or(CheckRule(r), Check(l)); e != api.OK {
		return nil, e
	}
	offsets, found := search{rule{r}, l, map[[2]place]bool{}}.first()
	if !found {
		return nil, api.ErrNone
	}
	return offsets, api.OK
}

// first tries offsets in their order, so that the first ones that fit are found first.
func (s search) first() (offsets []int, found bool) {
	offsets = make([]int, len(s.rights))
	var find func(right int) bool
	find = func(right int) bool {
		if right == len(offsets) {
			return true
		}
	choosing:
		for offset := range (held{s.rights[right]}).offsets() {
			for other := range right {
				if !s.fit(place{other, offsets[other]}, place{right, offset}) {
					continue choosing
				}
			}
			offsets[right] = offset
			if find(right + 1) {
				return true
			}
		}
		return false
	}
	return offsets, find(0)
}

// fit reports whether two rights with their places never cross.
func (s search) fit(a, b place) bool {
	pair := [2]place{a, b}
	fits, known := s.fits[pair]
	if !known {
		fits = s.firstDay(s.at(a), s.at(b)) == never
		s.fits[pair] = fits
	}
	return fits
}

func (s search) at(p place) held {
	h := held{s.rights[p.right]}
	h.Offset = p.offset
	return h
}

// offsets produces the offsets that a right may have.
func (h held) offsets() iter.Seq[int] {
	return func(yield func(int) bool) {
		for offset := range h.Every {
			if (!h.Fixed || offset == h.Offset) && !yield(offset) {
				return
			}
		}
	}
}
