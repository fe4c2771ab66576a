package still

import (
	"cmp"
	"slices"

	"pinaster/api"
)

// curve tells at which temperature vapour flashes with a vacuum.
type curve interface{ flash(vacuum int) int }

// table is the curve of some points, straight between each two of them.
type table []api.StillPoint

// plant is a still, the curve of its flash, its settings from the one that yields most on, and what is known of its steps: what is safe for them, and what settings hold in them.
type plant struct {
	api.Still
	curve
	ranked []int
	safes  map[int]scale
	holds  map[choice]scale
}

// choice is a setting that is taken in a step.
type choice struct{ step, setting int }

// fired is a step with a setting.
type fired struct {
	api.StillStep
	api.StillSetting
}

func plantOf(s api.Still) plant {
	p := plant{Still: s, curve: table(s.Table), safes: map[int]scale{}, holds: map[choice]scale{}}
	for setting := range s.Settings {
		p.ranked = append(p.ranked, setting)
	}
	slices.SortStableFunc(p.ranked, func(a, b int) int {
		return cmp.Compare(s.Settings[b].Yield, s.Settings[a].Yield)
	})
	return p
}

// Flash returns the temperature at which vapour flashes.
func Flash(s api.Still, vacuum int) (int, api.Errno) {
	if e := cmp.Or(Check(s), checkVacuum(vacuum)); e != api.OK {
		return 0, e
	}
	return plantOf(s).flash(vacuum), api.OK
}

// Range returns between what the temperature of a step must lie.
func Range(s api.Still, step int) (api.Span, api.Errno) {
	if e := cmp.Or(Check(s), checkStep(s, step)); e != api.OK {
		return api.Span{}, e
	}
	return plantOf(s).between(step), api.OK
}

// Next returns the least and the greatest temperature that can follow.
func Next(s api.Still, step, temp, setting int) (api.Span, api.Errno) {
	if e := cmp.Or(Check(s), checkStep(s, step), checkTemp(temp), checkSetting(s, setting)); e != api.OK {
		return api.Span{}, e
	}
	return plantOf(s).fire(choice{step, setting}).next(temp), api.OK
}

func (t table) flash(vacuum int) int {
	i := 1
	for t[i].Vacuum < vacuum {
		i++
	}
	a, b := t[i-1], t[i]
	return a.Flash - roundedUp((a.Flash-b.Flash)*(vacuum-a.Vacuum), b.Vacuum-a.Vacuum)
}

// roundedUp returns a quotient of numbers that are not negative.
func roundedUp(n, by int) int { return (n + by - 1) / by }

// between returns the ends of the range of a step: the first one is greater than the last one, if there are no temperatures in it.
func (p plant) between(step int) api.Span {
	now := p.Steps[step]
	return api.Span{Low: now.Cold, High: p.flash(now.Vacuum) - p.Margin}
}

func (p plant) fire(c choice) fired { return fired{p.Steps[c.step], p.Settings[c.setting]} }

// next returns the least and the greatest temperature that can follow.
func (f fired) next(temp int) api.Span {
	return api.Span{Low: after(temp, f.Heat.Low, f.Loss.High), High: after(temp, f.Heat.High, f.Loss.Low)}
}

// after returns what follows a temperature, with a heat and a loss.
func after(temp, heat, loss int) int {
	return greatest(0, least(temp+heat-loss, api.StillTemp))
}
