package rights

import (
	"cmp"
	"math"

	"pinaster/api"
)

// never stands for a day that does not come.
const never = math.MaxInt

// rule is one that says which rights cross.
type rule struct{ api.RightsRule }

// Cross returns the first day on which two rights cross.
func Cross(r api.RightsRule, l []api.Right, a, b int) (int, api.Errno) {
	if e := cmp.Or(CheckRule(r), Check(l), checkTwo(l, a, b)); e != api.OK {
		return 0, e
	}
	m := rule{r}.meet(l, a, b)
	if m == (api.Meet{}) {
		return 0, api.ErrNone
	}
	return m.Day, api.OK
}

// Crosses returns all pairs of rights that cross.
func Crosses(r api.RightsRule, l []api.Right) ([]api.Meet, api.Errno) {
	if e := cmp.Or(CheckRule(r), Check(l)); e != api.OK {
		return nil, e
	}
	var meets []api.Meet
	for a := range l {
		for b := a + 1; b < len(l); b++ {
			if m := (rule{r}).meet(l, a, b); m != (api.Meet{}) {
				meets = append(meets, m)
			}
		}
	}
	return meets, api.OK
}

// meet returns two rights and the first day on which they cross. If they never do, it returns the zero value, which has one right twice.
func (r rule) meet(l []api.Right, a, b int) api.Meet {
	day := r.firstDay(held{l[a]}, held{l[b]})
	if day == never {
		return api.Meet{}
	}
	return api.Meet{A: a, B: b, Day: day}
}

// firstDay returns the first day on which two rights cross.
func (r rule) firstDay(a, b held) int {
	if !has(r.Bars[a.Use], b.Use) || a.Plots&b.Plots == 0 {
		return never
	}
	return least(r.firstAfter(a, b), r.firstAfter(b, a))
}

// firstAfter returns the first day on which a right is held, and another one is held or was within the days of rest. It looks at as many years as the product of their Every, and one more: from the year 1 on, which has a year before it, all comes again after so many.
func (r rule) firstAfter(h, other held) int {
	for year := range h.Every*other.Every + 1 {
		for day := range h.days(year) {
			if other.isWithin(max(0, day-r.Rest), day) {
				return day
			}
		}
	}
	return never
}

// least returns never if there are no days.
func least(days ...int) int {
	first := never
	for _, day := range days {
		first = min(first, day)
	}
	return first
}
