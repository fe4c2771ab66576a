package pot_test

import (
	"math"
	"slices"
	"testing"

	"pinaster/api"
	"pinaster/pot"
)

// at is a run of pots at some places.
func at(places ...[2]int) api.PotRun {
	r := steady(0, 1, slices.Repeat([]int{1}, len(places))...)
	for i, p := range places {
		r.Pots[i].X, r.Pots[i].Y = p[0], p[1]
	}
	return r
}

// P3.7

func TestWalk(t *testing.T) {
	line := at([2]int{50, 0}, [2]int{10, 1}, [2]int{40, 0}, [2]int{20, 1}, [2]int{30, 0})
	far := at([2]int{10000, 0}, [2]int{0, 10000}, [2]int{10000, 10000})
	same := at([2]int{7, 7}, [2]int{7, 7}, [2]int{0, 0})
	for i, x := range []struct {
		r      api.PotRun
		pots   []int
		want   []int
		length int
	}{
		{run(), []int{0, 1, 2}, []int{0, 2, 1}, 14}, {run(), []int{2, 1, 0}, []int{0, 2, 1}, 14}, {run(), []int{1, 2, 0}, []int{0, 2, 1}, 14},
		{run(), []int{1, 0}, []int{0, 1}, 14}, {run(), []int{2, 1}, []int{1, 2}, 14}, {run(), []int{2, 0}, []int{0, 2}, 14},
		{run(), []int{0}, []int{0}, 6}, {run(), []int{1}, []int{1}, 8}, {run(), []int{2}, []int{2}, 14}, {run(), nil, nil, 0}, {run(), []int{}, nil, 0},
		{line, []int{0, 1, 2, 3, 4}, []int{0, 2, 4, 3, 1}, 102}, {line, []int{4, 2, 0}, []int{0, 2, 4}, 100}, {line, []int{3, 1}, []int{1, 3}, 42},
		{far, []int{0, 1, 2}, []int{0, 2, 1}, 40000}, {far, []int{1, 0}, []int{0, 1}, 40000},
		{same, []int{2, 1, 0}, []int{0, 1, 2}, 28}, {same, []int{1, 2}, []int{1, 2}, 28},
		{steady(0, 1), nil, nil, 0},
	} {
		if order, length, e := pot.Walk(x.r, x.pots); !slices.Equal(order, x.want) || length != x.length || e != api.OK {
			t.Errorf("%d: %v, %d, %d", i, order, length, e)
		}
	}
}

func TestWrongWalks(t *testing.T) {
	wrong := [][]int{{1, 1}, {0, 1, 0}, {2, 1, 0, 2}, {0, 1, 2, 3}, {3}, {-1}, {0, 3}, {3, 0}, {-1, 0}, make([]int, 5000)}
	for _, n := range odd {
		wrong = append(wrong, []int{n}, []int{0, n}, []int{n, 2})
	}
	for _, pots := range wrong {
		if order, length, e := pot.Walk(run(), pots); len(order) != 0 || length != 0 || e != api.ErrPotPlan {
			t.Errorf("%v: %v, %d, %d", pots, order, length, e)
		}
	}
	if order, length, e := pot.Walk(steady(1, 1), []int{0}); len(order) != 0 || length != 0 || e != api.ErrPotPlan {
		t.Errorf("no pots: %v, %d, %d", order, length, e)
	}
}

func walkOf(r api.PotRun, order []int) int {
	x, y, length := 0, 0, 0
	step := func(toX, toY int) {
		length += int(math.Abs(float64(toX-x)) + math.Abs(float64(toY-y)))
		x, y = toX, toY
	}
	for _, i := range order {
		step(r.Pots[i].X, r.Pots[i].Y)
	}
	step(0, 0)
	return length
}

// allOrders are all orders of some pots, in no order of their own.
func allOrders(pots []int) [][]int {
	if len(pots) == 0 {
		return [][]int{nil}
	}
	var all [][]int
	for _, rest := range allOrders(pots[1:]) {
		for i := 0; i <= len(rest); i++ {
			all = append(all, slices.Insert(slices.Clone(rest), i, pots[0]))
		}
	}
	return all
}

// P3.12

func TestWalkAgainstAllOrders(t *testing.T) {
	d := &dice{8}
	for range 120 {
		r := d.run(6, 1)
		if d.upTo(2) == 0 {
			for i := range r.Pots {
				r.Pots[i].X, r.Pots[i].Y = d.upTo(10000), d.upTo(10000)
			}
		}
		var pots []int
		for i := range 6 {
			if d.upTo(4) != 0 {
				pots = slices.Insert(pots, d.upTo(len(pots)), i)
			}
		}
		var best []int
		least := math.MaxInt
		for _, order := range allOrders(pots) {
			length := walkOf(r, order)
			if length < least || length == least && slices.Compare(order, best) < 0 {
				best, least = order, length
			}
		}
		order, length, e := pot.Walk(r, pots)
		if !slices.Equal(order, best) || length != least || e != api.OK {
			t.Fatalf("%v, %v: %v, %d, %d, want %v, %d", r.Pots, pots, order, length, e, best, least)
		}
		slices.Reverse(order)
		if walkOf(r, order) != length {
			t.Fatalf("%v, %v: turned around, the walk is as long as %d", r.Pots, order, walkOf(r, order))
		}
	}
}
