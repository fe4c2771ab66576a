package drum

import (
	"cmp"

	"pinaster/api"
)

// filling is layers that are filled into drums of a size, each of a stand by some thousandths.
type filling struct {
	row
	size, pure int
}

// Fill returns a filling with the most drums.
func Fill(l []api.DrumLayer, size, pure, rest int) ([]api.DrumFill, api.Errno) {
	if e := cmp.Or(checkLayers(l), checkFill(size, pure, rest)); e != api.OK {
		return nil, e
	}
	return filling{l, size, pure}.most(rest), api.OK
}

// most takes each drum as soon as it can: no other drums end earlier, and no others leave less in front of them.
func (f filling) most(rest int) []api.DrumFill {
	var fills []api.DrumFill
	free := 0 // the first gram behind the last drum
	for start := range f.grams() - f.size + 1 {
		if start < free {
			continue
		}
		if start-len(fills)*f.size > rest {
			break
		}
		if stand, is := f.standOf(start); is {
			fills = append(fills, api.DrumFill{Start: start, Stand: stand})
			free = start + f.size
		}
	}
	return fills
}

// standOf returns the stand of which a drum is that begins there, the least one of several.
func (f filling) standOf(start int) (stand int, is bool) {
	for stand, grams := range f.gramsAt(start) {
		if isPure(grams, f.size, f.pure) {
			return stand, true
		}
	}
	return 0, false
}

// gramsAt returns how many grams of each stand are in a drum that begins there.
func (f filling) gramsAt(start int) [api.DrumStands]int {
	var grams [api.DrumStands]int
	low := 0 // the first gram of a layer
	for _, x := range f.row {
		high := low + x.Grams
		grams[x.Stand] += max(0, min(high, start+f.size)-max(low, start))
		low = high
	}
	return grams
}
