package still

import (
	"cmp"

	"pinaster/api"
)

// none stands for a setting that there is not.
const none = -1

// Safe returns all temperatures that are safe for a step.
func Safe(s api.Still, step int) ([]int, api.Errno) {
	if e := cmp.Or(Check(s), checkStep(s, step)); e != api.OK {
		return nil, e
	}
	var list []int
	for temp, isSafe := range plantOf(s).safe(step) {
		if isSafe {
			list = append(list, temp)
		}
	}
	return list, api.OK
}

// Setting returns the setting for a span.
func Setting(s api.Still, step int, known api.Span) (int, api.Errno) {
	if e := cmp.Or(Check(s), checkStep(s, step), checkSpan(s, known)); e != api.OK {
		return 0, e
	}
	return plantOf(s).setting(step, known)
}

func (p plant) setting(step int, known api.Span) (int, api.Errno) {
	setting := p.choose(step, known)
	if setting == none {
		return 0, api.ErrNone
	}
	return setting, api.OK
}

// safe tells which temperatures are safe for a step; behind the last step, these are those of the end.
func (p plant) safe(step int) scale {
	if safe, ok := p.safes[step]; ok {
		return safe
	}
	var safe scale
	switch {
	case step == len(p.Steps):
		for temp := range within(p.End) {
			safe[temp] = true
		}
	case p.safe(step+1) != scale{}:
		for temp := range within(p.between(step)) {
			safe[temp] = p.isSafe(step, temp)
		}
	}
	p.safes[step] = safe
	return safe
}

// isSafe reports whether a temperature in the range of a step is safe for it.
func (p plant) isSafe(step, temp int) bool {
	for span := range spans(temp, 2*p.Error) {
		if p.choose(step, span) == none {
			return false
		}
	}
	return true
}

// choose returns the setting for a span: none, if no setting holds it.
func (p plant) choose(step int, span api.Span) int {
	chosen := none
choosing:
	for _, setting := range p.ranked {
		if p.held(choice{step, setting}).has(span) {
			chosen = setting
			break choosing
		}
	}
	return chosen
}

// held tells which temperatures a setting holds in a step; those out of its range are no hindrance.
func (p plant) held(c choice) scale {
	if held, ok := p.holds[c]; ok {
		return held
	}
	var held scale
	next, between, goal := p.fire(c).next, p.between(c.step), p.safe(c.step+1)
	for temp := range held {
		held[temp] = !isIn(temp, between) || goal.has(next(temp))
	}
	p.holds[c] = held
	return held
}
