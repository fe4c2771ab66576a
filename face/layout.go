package face

import (
	"cmp"
	"iter"

	"pinaster/api"
)

// parts tells of each part of a girth whether it is taken.
type parts [api.FaceGirth]bool

func (p parts) isFree(part int) bool { return !p[part] }

// bark is a tree, and the parts that its scars take.
type bark struct {
	api.FaceTree
	scarred parts
}

// Allowed returns all allowed starts.
func Allowed(t api.FaceTree) ([]int, api.Errno) {
	if e := Check(t); e != api.OK {
		return nil, e
	}
	return barkOf(t).starts(), api.OK
}

// Fits reports whether a layout fits.
func Fits(t api.FaceTree, layout []int) (bool, api.Errno) {
	if e := cmp.Or(Check(t), checkLayout(t, layout)); e != api.OK {
		return false, e
	}
	return barkOf(t).fits(layout), api.OK
}

// Most returns a layout with the most faces.
func Most(t api.FaceTree) ([]int, api.Errno) {
	if e := Check(t); e != api.OK {
		return nil, e
	}
	return barkOf(t).fullest(), api.OK
}

// Live returns the live bark at a height, and the gap.
func Live(t api.FaceTree, layout, heights []int, h int) (live, gap int, e api.Errno) {
	if e := cmp.Or(Check(t), checkLayout(t, layout)); e != api.OK {
		return 0, 0, e
	}
	b := barkOf(t)
	if e := cmp.Or(b.checkHeights(layout, heights), checkRange(h, 0, api.FaceReach)); e != api.OK {
		return 0, 0, e
	}
	var tall []int
	for i, start := range layout {
		if heights[i] > h {
			tall = append(tall, start)
		}
	}
	return b.live(tall), b.gap(tall), api.OK
}

func barkOf(t api.FaceTree) bark {
	b := bark{FaceTree: t}
	for _, s := range t.Scars {
		for part := range b.arc(s.From, s.Width) {
			b.scarred[part] = true
		}
	}
	return b
}

// arc produces the parts that an arc takes, around the tree.
func (b bark) arc(from, width int) iter.Seq[int] {
	return func(yield func(int) bool) {
		for i := range width {
			if !yield((from + i) % b.Girth) {
				return
			}
		}
	}
}

// allows reports whether a start is allowed: without the parts of its face the scars take the same.
func (b bark) allows(start int) bool {
	rest := b.scarred
	for part := range b.arc(start, b.Width) {
		rest[part] = false
	}
	return rest == b.scarred
}

// where returns the parts that are of a kind, increasing.
func (b bark) where(isSo func(part int) bool) []int {
	var found []int
	for part := range b.Girth {
		if isSo(part) {
			found = append(found, part)
		}
	}
	return found
}

func (b bark) starts() []int { return b.where(b.allows) }

// pitch is how many parts there are at least from the start of a face to that of the next one.
func (b bark) pitch() int { return b.Width + b.Bar }

// limit is how many faces take no more than their share of the girth.
func (b bark) limit() int { return b.Girth * b.Share / (b.Width * api.FaceShare) }

func (b bark) fits(layout []int) bool {
	if len(layout) > b.limit() {
		return false
	}
	for _, start := range layout {
		if !b.allows(start) {
			return false
		}
	}
	for step := range b.steps(layout) {
		if step < b.pitch() {
			return false
		}
	}
	return true
}

// steps produces how many parts there are from the start of each face to that of the next one, once around the tree.
func (b bark) steps(layout []int) iter.Seq[int] {
	return func(yield func(int) bool) {
		for i, start := range layout {
			next := layout[0] + b.Girth
			if i+1 < len(layout) {
				next = layout[i+1]
			}
			if !yield(next - start) {
				return
			}
		}
	}
}

// fullest returns the layout with the most faces. One that takes the next start each time has the most of those with its first start, and is the first of them.
func (b bark) fullest() []int {
	var best []int
	starts := b.starts()
	for i := range starts {
		if layout := b.tightest(starts[i:]); len(layout) > len(best) {
			best = layout
		}
	}
	return best
}

// tightest returns the layout that begins with the first of some starts, and takes the next one that is far enough each time.
func (b bark) tightest(starts []int) []int {
	var layout []int
	next, last := starts[0], starts[0]+b.Girth-b.pitch()
	for _, start := range starts {
		if start >= next && start <= last && len(layout) < b.limit() {
			layout = append(layout, start)
			next = start + b.pitch()
		}
	}
	return layout
}

func (b bark) checkHeights(layout, heights []int) api.Errno {
	if !b.fits(layout) || len(heights) != len(layout) || !areFrom(heights, 0, api.FaceReach) {
		return api.ErrFaceLayout
	}
	return api.OK
}

func (b bark) live(faces []int) int {
	var taken parts
	for _, start := range faces {
		for part := range b.arc(start, b.Width) {
			taken[part] = true
		}
	}
	return len(b.where(taken.isFree))
}

func (b bark) gap(faces []int) int {
	gap := b.Girth
	for step := range b.steps(faces) {
		gap = min(gap, step-b.Width)
	}
	return gap
}
