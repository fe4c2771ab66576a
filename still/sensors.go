package still

import (
	"slices"

	"pinaster/api"
)

// Known returns what is known of readings.
func Known(s api.Still, readings []int) (api.Span, api.Errno) {
	if e := Check(s); e != api.OK {
		return api.Span{}, e
	}
	return plantOf(s).known(readings)
}

// Suspects returns the sensors that have failed.
func Suspects(s api.Still, readings []int) ([]int, api.Errno) {
	if e := Check(s); e != api.OK {
		return nil, e
	}
	p := plantOf(s)
	possible := p.possible(readings)
	if len(possible) == 0 {
		return nil, api.ErrStillRead
	}
	var suspects []int
	for sensor, reading := range readings {
		if !slices.ContainsFunc(possible, func(temp int) bool { return p.agrees(reading, temp) }) {
			suspects = append(suspects, sensor)
		}
	}
	return suspects, api.OK
}

func (p plant) known(readings []int) (api.Span, api.Errno) {
	possible := p.possible(readings)
	if len(possible) == 0 {
		return api.Span{}, api.ErrStillRead
	}
	first, others := possible[0], possible[1:]
	return api.Span{Low: least(first, others...), High: greatest(first, others...)}, api.OK
}

// possible returns all temperatures that are possible with readings, increasing.
func (p plant) possible(readings []int) []int {
	var possible []int
	for temp := range api.StillTemp + 1 {
		if p.isPossible(temp, readings) {
			possible = append(possible, temp)
		}
	}
	return possible
}

func (p plant) isPossible(temp int, readings []int) bool {
	failed := 0
	for _, reading := range readings {
		if !p.agrees(reading, temp) {
			failed++
		}
	}
	return failed <= p.Failed && len(readings) == p.Sensors
}

// agrees reports whether a reading differs from a temperature by no more than the error; it may be so far away that their difference is no int.
func (p plant) agrees(reading, temp int) bool {
	return isFrom(reading, temp-p.Error, temp+p.Error)
}
