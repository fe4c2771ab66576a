package stand_test

import (
	"math"
	"slices"
	"strconv"

	"pinaster/api"
)

// odd are numbers that no index, year or count is.
var odd = []int{-1, math.MinInt, math.MaxInt, math.MinInt32, math.MaxInt32}

func span(low, high int) api.Span { return api.Span{Low: low, High: high} }

// example is the stand of the chapter's examples.
func example() api.Stand {
	return api.Stand{
		Grow: span(8, 12), Press: 3, Near: 30,
		Trees: []api.Tree{
			{Tag: "a", X: 0, Y: 0, Girth: span(900, 920), Crown: 40},
			{Tag: "b", X: 30, Y: 0, Girth: span(1000, 1000), Crown: 30},
			{Tag: "c", X: 60, Y: 0, Girth: span(700, 760), Crown: 50},
		},
	}
}

// exampleRule is the rule of the chapter's examples.
func exampleRule() api.StandRule {
	return api.StandRule{Girth: [3]int{950, 1300, 1700}, Crown: 35}
}

// wrongStand and wrongRule are wrong in one thing that is easily left out.
func wrongStand() api.Stand {
	s := example()
	s.Near = -1
	return s
}

func wrongRule() api.StandRule {
	r := exampleRule()
	r.Girth[2] = r.Girth[1]
	return r
}

// row is a stand of trees with these girths, ten decimetres apart.
func row(girths ...int) api.Stand {
	s := api.Stand{}
	for i, g := range girths {
		s.Trees = append(s.Trees, api.Tree{Tag: "r" + strconv.Itoa(i), X: 10 * i, Girth: span(g, g), Crown: 50})
	}
	return s
}

func cloneStand(s api.Stand) api.Stand {
	s.Trees = slices.Clone(s.Trees)
	return s
}

func sameStand(a, b api.Stand) bool {
	return a.Grow == b.Grow && a.Press == b.Press && a.Near == b.Near && slices.Equal(a.Trees, b.Trees)
}

// isZeroStand tells a stand that is given with an error.
func isZeroStand(s api.Stand) bool { return sameStand(s, api.Stand{}) }

// dice throws the same numbers in each run of the tests.
type dice struct{ seed uint64 }

// upTo throws a number from 0 to most.
func (d *dice) upTo(most int) int {
	d.seed = d.seed*6364136223846793005 + 1442695040888963407
	return int(d.seed >> 33 % uint64(most+1))
}

func (d *dice) span(least, most int) api.Span {
	low := least + d.upTo(most-least)
	return span(low, low+d.upTo(most-low))
}

// stand throws a valid stand of some trees; all is small enough that trees are near, press, and are worth the same.
func (d *dice) stand(trees int) api.Stand {
	s := api.Stand{Grow: d.span(0, 20), Press: d.upTo(6), Near: d.upTo(8)}
	for len(s.Trees) < trees {
		t := api.Tree{Tag: "t" + strconv.Itoa(len(s.Trees)), X: d.upTo(9), Y: d.upTo(9), Girth: d.span(1, 6+d.upTo(1200)), Crown: 30 + d.upTo(20)}
		free := true
		for _, o := range s.Trees {
			free = free && (o.X != t.X || o.Y != t.Y)
		}
		if free {
			s.Trees = append(s.Trees, t)
		}
	}
	return s
}

// light throws a stand of trees of so small a girth that many sets of them are worth the same.
func (d *dice) light(trees int) api.Stand {
	s := d.stand(trees)
	for i := range s.Trees {
		s.Trees[i].Girth = span(1+d.upTo(3), 4000)
	}
	return s
}

func (d *dice) rule() api.StandRule {
	first := 1 + d.upTo(900)
	second := first + 1 + d.upTo(900)
	third := second + 1 + d.upTo(900)
	return api.StandRule{Girth: [3]int{first, second, third}, Crown: 30 + d.upTo(10)}
}
