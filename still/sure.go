package still

import (
	"cmp"

	"pinaster/api"
)

// mostYield is as much as all steps together can yield.
const mostYield = api.StillSteps * api.StillYield

// moment is a step that begins with a temperature.
type moment struct{ step, temp int }

// Sure returns the sure yield of a temperature.
func Sure(s api.Still, step, temp int) (int, api.Errno) {
	if e := cmp.Or(Check(s), checkStep(s, step), checkTemp(temp)); e != api.OK {
		return 0, e
	}
	p := plantOf(s)
	if !p.safe(step)[temp] {
		return 0, api.ErrNone
	}
	return p.sure(moment{step, temp}), api.OK
}

// sure returns the least sum of yields from a moment on whose temperature is safe. All that follow are safe too, so there always is a setting.
func (p plant) sure(from moment) int {
	known := map[moment]int{}
	var search func(now moment) int
	search = func(now moment) int {
		if now.step == len(p.Steps) {
			return 0
		}
		if sum, ok := known[now]; ok {
			return sum
		}
		sum := mostYield
		for setting, isTaken := range p.taken(now) {
			if !isTaken {
				continue
			}
			for temp := range within(p.fire(choice{now.step, setting}).next(now.temp)) {
				sum = least(sum, p.Settings[setting].Yield+search(moment{now.step + 1, temp}))
			}
		}
		known[now] = sum
		return sum
	}
	return search(from)
}

// taken tells which settings are taken, whatever can be known when a step begins.
func (p plant) taken(now moment) [api.StillSettings]bool {
	var taken [api.StillSettings]bool
	for length := range 2*p.Error + 1 {
		for span := range spans(now.temp, length) {
			taken[p.choose(now.step, span)] = true
		}
	}
	return taken
}
