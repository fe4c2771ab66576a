package still

import (
	"cmp"

	"pinaster/api"
)

// Run runs a still by its readings.
func Run(s api.Still, temp int, readings [][]int, heat, loss []int) (temps, settings []int, e api.Errno) {
	if e := cmp.Or(Check(s), checkTemp(temp), checkRun(s, readings, heat, loss)); e != api.OK {
		return nil, nil, e
	}
	defer func() {
		if why, ok := recover().(api.Errno); ok {
			temps, settings, e = nil, nil, why
		}
	}()
	p := plantOf(s)
	temps = []int{temp}
	for step := range p.Steps {
		setting := p.set(moment{step, temp}, readings[step])
		temp = p.fire(choice{step, setting}).end(temp, heat[step], loss[step])
		temps, settings = append(temps, temp), append(settings, setting)
	}
	return temps, settings, api.OK
}

// set returns the setting that is taken with readings, and panics with an error if there is none.
func (p plant) set(now moment, readings []int) int {
	known, e := p.known(readings)
	must(e)
	must(p.checkReadings(now.temp, readings))
	setting, e := p.setting(now.step, known)
	must(e)
	return setting
}

// checkReadings checks that no more than the sensors that may have failed are wrong.
func (p plant) checkReadings(temp int, readings []int) api.Errno {
	if !p.isPossible(temp, readings) {
		return api.ErrStillRead
	}
	return api.OK
}

// end returns the temperature with which a step ends, and panics with an error if its heat or its loss cannot be.
func (f fired) end(temp, heat, loss int) int {
	must(f.checkFire(heat, loss))
	return after(temp, heat, loss)
}

func (f fired) checkFire(heat, loss int) api.Errno {
	if !isIn(heat, f.Heat) || !isIn(loss, f.Loss) {
		return api.ErrStillSpan
	}
	return api.OK
}

// must panics with an error; what is not to be gone on with is left so.
func must(e api.Errno) {
	if e != api.OK {
		panic(e)
	}
}
