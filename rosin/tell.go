package rosin

import (
	"cmp"
	"math/bits"
	"slices"

	"pinaster/api"
)

// mostRead is the greatest number that a test reads, of any part.
const mostRead = api.RosinSoft

// set is one of indices of grades.
type set uint

// stretch is numbers of a part that meet the same grades, and the grades that qualities with them have.
type stretch struct {
	api.Span
	grades set
}

// Tell returns what tests tell.
func Tell(t []api.RosinTest) (api.Spread, api.Errno) {
	if e := checkTests(t); e != api.OK {
		return api.Spread{}, e
	}
	return told(t).given(), api.OK
}

// Grades returns all grades that are possible with tests.
func Grades(l []api.RosinGrade, t []api.RosinTest) ([]int, api.Errno) {
	if e := cmp.Or(Check(l), checkTests(t)); e != api.OK {
		return nil, e
	}
	s := told(t)
	list := stretchesOf(classesOf(l), s)
	return gradesIn(list[glass], s.span(glass)).elements(), api.OK
}

// Settle returns which part is to be tested next, and how many grades are possible then at most.
func Settle(l []api.RosinGrade, t []api.RosinTest, wrong int) (part int, grades int, e api.Errno) {
	if e := cmp.Or(Check(l), checkTests(t), checkWrong(wrong)); e != api.OK {
		return 0, 0, e
	}
	var most [parts]int
	for part, list := range stretchesOf(classesOf(l), told(t)) {
		most[part] = mostGrades(list, wrong)
	}
	grades = slices.Min(most[:])
	return slices.Index(most[:], grades), grades, api.OK
}

func told(t []api.RosinTest) spread {
	s := all()
	for _, x := range t {
		one := all()
		one.low[x.Part], one.high[x.Part] = x.Read-x.Wrong, x.Read+x.Wrong
		s = s.and(one)
	}
	return s
}

// stretchesOf returns the stretches of each part in a spread. All qualities whose numbers are in the same stretches have the same grade, so one of them is graded for all.
func stretchesOf(classes []grade, s spread) [parts][]stretch {
	var list [parts][]stretch
	for part := range parts {
		list[part] = split(classes, s, part)
	}
	var search func(part int, q quality) set
	search = func(part int, q quality) set {
		if part == parts {
			return 1 << firstMet(classes, q)
		}
		var grades set
		for i, x := range list[part] {
			q[part] = x.Low
			some := search(part+1, q)
			list[part][i].grades |= some
			grades |= some
		}
		return grades
	}
	search(0, quality{})
	return list
}

// split cuts the numbers of a part in a spread where grades begin and cease to be met.
func split(classes []grade, s spread, part int) []stretch {
	from := []int{s.low[part]}
	for _, g := range classes {
		for _, n := range []int{g.asks.low[part], g.asks.high[part] + 1} {
			if isFrom(n, s.low[part], s.high[part]) {
				from = append(from, n)
			}
		}
	}
	slices.Sort(from)
	from = append(slices.Compact(from), s.high[part]+1)
	var list []stretch
	for i := range len(from) - 1 {
		list = append(list, stretch{Span: api.Span{Low: from[i], High: from[i+1] - 1}})
	}
	return list
}

// mostGrades returns how many grades are possible at most with what a test of the part reads; with what clashes, there are none.
func mostGrades(list []stretch, wrong int) int {
	most := 0
	for read := range mostRead + 1 {
		grades := gradesIn(list, api.Span{Low: read - wrong, High: read + wrong})
		most = max(most, bits.OnesCount(uint(grades)))
	}
	return most
}

// gradesIn returns the grades of all stretches that have a number in a span.
func gradesIn(list []stretch, s api.Span) set {
	var grades set
	for _, x := range list {
		if x.Low <= s.High && x.High >= s.Low {
			grades |= x.grades
		}
	}
	return grades
}

func (s set) elements() []int {
	var list []int
	for i := range bits.Len(uint(s)) {
		if s>>i&1 == 1 {
			list = append(list, i)
		}
	}
	return list
}
