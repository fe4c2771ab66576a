package stand_test

import (
	"slices"
	"testing"

	"pinaster/api"
	"pinaster/stand"
)

// P1.4

func TestThin(t *testing.T) {
	loose := example()
	loose.Near, loose.Trees[0].Crown = 0, 0 // neither neighbours nor crowns count
	wide := row(100, 1)
	wide.Trees[1].X, wide.Trees[1].Y = 100000, 100000
	edge := row(100, 1)
	edge.Trees[1].X = 100000
	for i, x := range []struct {
		s     api.Stand
		gap   int
		kept  []int
		worth int
	}{
		{example(), 30, []int{0, 2}, 1600}, {example(), 70, []int{1}, 1000},
		{example(), 29, []int{0, 1, 2}, 2600}, {example(), 59, []int{0, 2}, 1600}, {example(), 60, []int{1}, 1000},
		{example(), 0, []int{0, 1, 2}, 2600}, {example(), 100000, []int{1}, 1000},
		{loose, 30, []int{0, 2}, 1600},
		{wide, 100000, []int{0, 1}, 101}, {edge, 100000, []int{0}, 100}, {edge, 99999, []int{0, 1}, 101},
		{row(), 5, nil, 0}, {row(9), 100000, []int{0}, 9},
		// worth decides, not how many there are
		{row(3, 7, 3), 10, []int{1}, 7}, {row(3, 5, 3), 10, []int{0, 2}, 6},
		// the first of several that are worth the same
		{row(5, 5), 10, []int{0}, 5}, {row(3, 6, 3), 10, []int{0, 2}, 6}, {row(6, 3), 10, []int{0}, 6},
		{row(2, 2, 2, 2), 10, []int{0, 2}, 4}, {row(1, 3, 2), 10, []int{0, 2}, 3}, {row(1, 2, 2, 1), 10, []int{0, 2}, 3},
		{row(5, 5, 5, 5, 5), 20, []int{0, 3}, 10}, {row(4, 4, 4, 8), 20, []int{0, 3}, 12}, {row(1, 1, 2, 1, 1), 30, []int{0, 4}, 2}, {row(1, 1, 3, 1, 1), 30, []int{2}, 3},
	} {
		kept, worth, e := stand.Thin(x.s, x.gap)
		if !slices.Equal(kept, x.kept) || worth != x.worth || e != api.OK {
			t.Errorf("%d, the gap %d: %v, %d, %d, want %v, %d", i, x.gap, kept, worth, e, x.kept, x.worth)
		}
	}
	for _, gap := range append(slices.Clone(odd), 100001) {
		if kept, worth, e := stand.Thin(example(), gap); len(kept) != 0 || worth != 0 || e != api.ErrRange {
			t.Errorf("the gap %d: %v, %d, %d", gap, kept, worth, e)
		}
	}
}

func TestThinCountsTheLeastGirth(t *testing.T) {
	s := row(10, 20)
	s.Trees[0].Girth.High = 4000
	if kept, worth, e := stand.Thin(s, 10); !slices.Equal(kept, []int{1}) || worth != 20 || e != api.OK {
		t.Errorf("%v, %d, %d", kept, worth, e)
	}
}

func TestLeft(t *testing.T) {
	for _, kept := range [][]int{nil, {}, {0}, {1}, {2}, {0, 1}, {0, 2}, {1, 2}, {0, 1, 2}} {
		want := example()
		want.Trees = nil
		for _, tree := range kept {
			want.Trees = append(want.Trees, example().Trees[tree])
		}
		if s, e := stand.Left(example(), kept); !sameStand(s, want) || e != api.OK {
			t.Errorf("%v: %v, %d", kept, s, e)
		}
	}
	wrong := [][]int{{3}, {0, 3}, {0, 1, 2, 3}, {-1}, {-1, 0}, {1, 0}, {0, 0}, {2, 2}, {0, 2, 1}, {0, 1, 1}, {0, 2, 0}, make([]int, 1000)}
	for _, n := range odd {
		wrong = append(wrong, []int{n}, []int{0, n}, []int{n, 0})
	}
	for _, kept := range wrong {
		if s, e := stand.Left(example(), kept); !isZeroStand(s) || e != api.ErrTree {
			t.Errorf("%v: %v, %d", kept, s, e)
		}
	}
	if s, e := stand.Left(api.Stand{Grow: span(1, 2)}, nil); s.Grow != span(1, 2) || len(s.Trees) != 0 || e != api.OK {
		t.Errorf("none of none: %v, %d", s, e)
	}
	if _, e := stand.Left(api.Stand{}, []int{0}); e != api.ErrTree {
		t.Errorf("the tree 0 of none: %d", e)
	}
}

// P1.10

// hasGap tells in its own way whether a set of trees has a gap.
func hasGap(trees []api.Tree, set []int, gap int) bool {
	for i, a := range set {
		for _, b := range set[:i] {
			x, y := trees[a].X-trees[b].X, trees[a].Y-trees[b].Y
			if x*x+y*y <= gap*gap {
				return false
			}
		}
	}
	return true
}

// bestOf tries all sets of trees.
func bestOf(trees []api.Tree, gap int) (best []int, most int) {
	for bits := range 1 << len(trees) {
		var set []int
		worth := 0
		for tree, t := range trees {
			if bits>>tree&1 == 1 {
				set = append(set, tree)
				worth += t.Girth.Low
			}
		}
		if (worth > most || worth == most && slices.Compare(set, best) < 0) && hasGap(trees, set, gap) {
			best, most = set, worth
		}
	}
	return best, most
}

func TestThinAgainstAllSets(t *testing.T) {
	d := &dice{4}
	for round := range 300 {
		s := d.light(d.upTo(9))
		if round%3 == 0 {
			s = d.stand(d.upTo(9))
		}
		gap := d.upTo(9)
		best, most := bestOf(s.Trees, gap)
		kept, worth, e := stand.Thin(s, gap)
		if !slices.Equal(kept, best) || worth != most || e != api.OK {
			t.Fatalf("%v with the gap %d: %v, %d, %d, want %v, %d", s, gap, kept, worth, e, best, most)
		}
	}
	for range 8 {
		s := d.light(14)
		gap := 1 + d.upTo(5)
		best, most := bestOf(s.Trees, gap)
		if kept, worth, e := stand.Thin(s, gap); !slices.Equal(kept, best) || worth != most || e != api.OK {
			t.Fatalf("%v with the gap %d: %v, %d, %d, want %v, %d", s, gap, kept, worth, e, best, most)
		}
	}
}

func TestThinWithAGreaterGap(t *testing.T) {
	d := &dice{5}
	for range 60 {
		s := d.stand(d.upTo(14))
		last := -1
		for gap := range 20 {
			kept, worth, e := stand.Thin(s, gap)
			sum := 0
			for _, tree := range kept {
				sum += s.Trees[tree].Girth.Low
			}
			if e != api.OK || sum != worth || !hasGap(s.Trees, kept, gap) || last >= 0 && worth > last {
				t.Fatalf("%v with the gap %d: %v, %d, %d; before: %d", s, gap, kept, worth, e, last)
			}
			last = worth
		}
	}
}
