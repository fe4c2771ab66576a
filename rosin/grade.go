package rosin

import (
	"cmp"
	"maps"
	"slices"

	"pinaster/api"
)

// grade is one at its index, and which qualities it asks for.
type grade struct {
	api.RosinGrade
	index int
	asks  spread
}

// sample is what meets a grade: a quality, or many of them, if all of them do.
type sample interface{ isIn(s spread) bool }

// Grade returns the grade of a quality.
func Grade(l []api.RosinGrade, q api.Quality) (int, api.Errno) {
	if e := cmp.Or(Check(l), checkQuality(q)); e != api.OK {
		return 0, e
	}
	return firstMet(classesOf(l), qualityOf(q)), api.OK
}

func asksOf(g api.RosinGrade) spread {
	return spread{
		low:  quality{0, g.Soft.Low, g.Acid, 0},
		high: quality{g.Glass, g.Soft.High, api.RosinAcid, g.Dirt},
	}
}

func gradeAt(l []api.RosinGrade, index int) grade {
	return grade{l[index], index, asksOf(l[index])}
}

// gradesOf returns the grades, but those that ask for the same as one before them: no quality has them, and they bring no more.
func gradesOf(l []api.RosinGrade) []grade {
	kept := map[spread]grade{}
	for i := range l {
		g := gradeAt(l, i)
		if _, known := kept[g.asks]; !known {
			kept[g.asks] = g
		}
	}
	return slices.SortedFunc(maps.Values(kept), func(a, b grade) int { return cmp.Compare(a.index, b.index) })
}

// classesOf returns the grades, and as the last one that of the qualities that meet none.
func classesOf(l []api.RosinGrade) []grade {
	return append(gradesOf(l), grade{index: len(l), asks: all()})
}

func firstMet(classes []grade, s sample) int {
	i := slices.IndexFunc(classes, func(g grade) bool { return g.isMetBy(s) })
	return classes[i].index
}

func (g grade) isMetBy(s sample) bool { return s.isIn(g.asks) }
