package fire

import (
	"cmp"
	"math/bits"

	"pinaster/api"
)

// Safe reports whether crews are safe.
func Safe(l api.FireLand, watch int, crews []int) (bool, api.Errno) {
	if e := cmp.Or(checkAsked(l, watch), checkCrews(l, crews)); e != api.OK {
		return false, e
	}
	return landOf(l).isSafe(watch, crews), api.OK
}

// Watch returns the watch with the fewest places for which crews are safe.
func Watch(l api.FireLand, crews []int) (int, api.Errno) {
	if e := cmp.Or(Check(l), checkCrews(l, crews)); e != api.OK {
		return 0, e
	}
	best, fewest := nobody, l.Places+1
	n := landOf(l)
	for watch := range 1 << l.Places {
		if many := bits.OnesCount(uint(watch)); many < fewest && n.isSafe(watch, crews) {
			best, fewest = watch, many
		}
	}
	if fewest > l.Places {
		return 0, api.ErrNone
	}
	return best, api.OK
}

// Lines returns the fewest ways that must be cut for crews to be safe.
func Lines(l api.FireLand, watch int, crews []int) ([]int, api.Errno) {
	if e := cmp.Or(checkAsked(l, watch), checkCrews(l, crews)); e != api.OK {
		return nil, e
	}
	isSafe := func(n land) bool { return n.isSafe(watch, crews) }
	for many := range api.FireLines + 1 {
		if lines, ok := landOf(l).firstLines(many, 0, isSafe); ok {
			return lines, api.OK
		}
	}
	return nil, api.ErrNone
}

func (l land) isSafe(watch int, crews []int) bool {
	deadlines := l.deadlines(watch)
	for _, crew := range crews {
		if !l.isOut(l.reach(crew, deadlines)) {
			return false
		}
	}
	return true
}

// firstLines returns the first list of so many more ways, from a way on, with which a land is safe if they are cut.
func (l land) firstLines(many, from int, isSafe func(land) bool) (lines []int, ok bool) {
	if many == 0 {
		return nil, isSafe(l)
	}
	for way := from; way < len(l.Ways); way++ {
		lines, ok := landWithout(l.FireLand, l.cut|1<<way).firstLines(many-1, way+1, isSafe)
		if ok {
			return append([]int{way}, lines...), true
		}
	}
	return nil, false
}
