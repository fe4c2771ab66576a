package pot

import (
	"cmp"

	"pinaster/api"
)

// never stands for the day on which a pot was emptied that was not.
const never = -1

// hung is a pot in its run: above what warmth resin flows into it, and the days.
type hung struct {
	api.Pot
	base int
	days []api.PotDay
}

// Level returns the least and the greatest level of a pot.
func Level(r api.PotRun, pot, from, day int) (api.Span, api.Errno) {
	if e := cmp.Or(Check(r), checkPot(r, pot, never, from, day)); e != api.OK {
		return api.Span{}, e
	}
	return hang(r, pot).level(from, day), api.OK
}

// Due returns on which day a pot is due.
func Due(r api.PotRun, pot, from int) (int, api.Errno) {
	if e := cmp.Or(Check(r), checkPot(r, pot, never, from, len(r.Days)-1)); e != api.OK {
		return 0, e
	}
	return hang(r, pot).due(from), api.OK
}

func hang(r api.PotRun, pot int) hung { return hung{r.Pots[pot], r.Base, r.Days} }

// resin is how much resin comes into a pot on a day with a warmth.
func (h hung) resin(warm int) int { return h.Flow * max(0, warm-h.base) }

// water is how much water comes into a pot on a day with a rain.
func (h hung) water(rain int) int { return h.Catch * rain }

func (h hung) least(d api.PotDay) int { return h.resin(d.Warm.Low) + h.water(d.Rain.Low) }

func (h hung) most(d api.PotDay) int { return h.resin(d.Warm.High) + h.water(d.Rain.High) }

func (h hung) level(from, day int) api.Span {
	came := h.days[max(0, from) : day+1]
	level := api.Span{Low: total(h, came, hung.least), High: total(h, came, hung.most)}
	if from == never {
		level.Low += h.Has.Low
		level.High += h.Has.High
	}
	return level
}

// total adds up what something gets of each of some others.
func total[T, O any](one T, others []O, gets func(T, O) int) int {
	sum := 0
	for _, other := range others {
		sum += gets(one, other)
	}
	return sum
}

// canRunOver reports whether a pot runs over at the end of a day in some truth, or did so before.
func (h hung) canRunOver(from, day int) bool { return h.level(from, day).High > h.Size }

func (h hung) due(from int) int {
	for day := range len(h.days) {
		if day >= from && h.canRunOver(from, day) {
			return day
		}
	}
	return len(h.days)
}
