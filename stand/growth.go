package stand

import (
	"cmp"
	"iter"

	"pinaster/api"
)

// never is what stands for a year that is not within those that are looked ahead.
const never = api.StandYears + 1

// growing is a tree, and between what its growth lies in a year.
type growing struct {
	api.Tree
	rate api.Span
}

// Near returns the neighbours of a tree.
func Near(s api.Stand, tree int) ([]int, api.Errno) {
	if e := cmp.Or(Check(s), checkTree(s, tree)); e != api.OK {
		return nil, e
	}
	var near []int
	for i := range neighbours(s, tree) {
		near = append(near, i)
	}
	return near, api.OK
}

// Girth returns the girth of a tree after years.
func Girth(s api.Stand, tree, years int) (api.Span, api.Errno) {
	e := cmp.Or(Check(s), checkTree(s, tree), checkRange(years, 0, api.StandYears))
	if e != api.OK {
		return api.Span{}, e
	}
	return grow(s, tree).girthAfter(years), api.OK
}

// Faces returns how many faces a tree may have after years.
func Faces(r api.StandRule, s api.Stand, tree, years int) (api.Span, api.Errno) {
	e := cmp.Or(CheckRule(r), Check(s), checkTree(s, tree), checkRange(years, 0, api.StandYears))
	if e != api.OK {
		return api.Span{}, e
	}
	return grow(s, tree).facesAfter(r, years), api.OK
}

// Ready returns after how many years a tree may have faces.
func Ready(r api.StandRule, s api.Stand, tree, faces int) (api.Span, api.Errno) {
	e := cmp.Or(CheckRule(r), Check(s), checkTree(s, tree), checkRange(faces, 1, api.StandFaces))
	if e != api.OK {
		return api.Span{}, e
	}
	return grow(s, tree).readyFor(r, faces), api.OK
}

// neighbours produces the indices of the neighbours of a tree, increasing.
func neighbours(s api.Stand, tree int) iter.Seq[int] {
	return func(yield func(int) bool) {
		for i, other := range s.Trees {
			if i != tree && isWithin(s.Trees[tree], other, s.Near) && !yield(i) {
				return
			}
		}
	}
}

// isWithin reports whether two trees are at most a distance apart. The squares need more than 32 bits.
func isWithin(a, b api.Tree, distance int) bool {
	x, y, d := int64(a.X-b.X), int64(a.Y-b.Y), int64(distance)
	return x*x+y*y <= d*d
}

func grow(s api.Stand, tree int) growing {
	taken := 0
	for range neighbours(s, tree) {
		taken += s.Press
	}
	rate := api.Span{Low: max(0, s.Grow.Low-taken), High: max(0, s.Grow.High-taken)}
	return growing{s.Trees[tree], rate}
}

func (g growing) girthAfter(years int) api.Span {
	return api.Span{Low: g.Girth.Low + years*g.rate.Low, High: g.Girth.High + years*g.rate.High}
}

func (g growing) facesAfter(r api.StandRule, years int) api.Span {
	girth := g.girthAfter(years)
	return api.Span{Low: g.facesWith(r, girth.Low), High: g.facesWith(r, girth.High)}
}

func (g growing) facesWith(r api.StandRule, girth int) int {
	if g.Crown < r.Crown {
		return 0
	}
	faces := 0
	for _, needed := range r.Girth {
		if needed <= girth {
			faces++
		}
	}
	return faces
}

func (g growing) readyFor(r api.StandRule, faces int) api.Span {
	ready := api.Span{Low: never, High: never}
	for years := range never {
		has := g.facesAfter(r, years)
		if has.High >= faces {
			ready.Low = min(ready.Low, years)
		}
		if has.Low >= faces {
			ready.High = min(ready.High, years)
		}
	}
	return ready
}
