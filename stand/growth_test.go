package stand_test

import (
	"slices"
	"testing"

	"pinaster/api"
	"pinaster/stand"
)

// P1.2

func TestNear(t *testing.T) {
	for tree, want := range [][]int{{1}, {0, 2}, {1}} {
		if near, e := stand.Near(example(), tree); !slices.Equal(near, want) || e != api.OK {
			t.Errorf("the tree %d: %v, %d", tree, near, e)
		}
	}
}

func TestNearByDistance(t *testing.T) {
	for _, x := range []struct {
		x, y, near int
		want       bool
	}{
		{3, 4, 5, true}, {3, 4, 4, false}, {4, 4, 5, false}, {5, 0, 5, true}, {0, 5, 5, true}, {6, 0, 5, false}, {0, 6, 5, false},
		{1, 0, 0, false}, {0, 1, 0, false}, {1, 0, 1, true}, {0, 1, 1, true}, {1, 1, 1, false}, {1, 1, 2, true}, {7, 7, 9, false}, {7, 7, 10, true},
		{100000, 0, 100000, true}, {0, 100000, 99999, false}, {100000, 1, 100000, false}, {100000, 100000, 100000, false},
		{60000, 80000, 100000, true}, {60000, 80000, 99999, false}, {65536, 0, 1, false}, {46341, 46341, 60000, false}, {99999, 448, 100000, false}, {99999, 447, 100000, true},
	} {
		s := row(5, 5)
		s.Trees[1].X, s.Trees[1].Y, s.Near = x.x, x.y, x.near
		for turn := range 4 { // the trees the other way round, and to the other side
			if turn == 1 || turn == 3 {
				s.Trees[0].X, s.Trees[1].X = s.Trees[1].X, s.Trees[0].X
			} else if turn == 2 {
				s.Trees[0].Y, s.Trees[1].Y = s.Trees[1].Y, s.Trees[0].Y
			}
			for tree := range 2 {
				near, e := stand.Near(s, tree)
				if e != api.OK || (len(near) == 1) != x.want || len(near) == 1 && near[0] != 1-tree {
					t.Errorf("%v, turn %d, the tree %d: %v, %d", x, turn, tree, near, e)
				}
			}
		}
	}
}

func TestGirth(t *testing.T) {
	crowded := example()
	crowded.Press = 9 // takes all of the least growth of a, and all growth of b
	still := example()
	still.Grow, still.Press = span(0, 0), 0
	thick := api.Stand{Grow: span(100, 100), Trees: []api.Tree{{Tag: "z", Girth: span(1, 4000)}}}
	for _, x := range []struct {
		s           api.Stand
		tree, years int
		want        api.Span
	}{
		{example(), 1, 10, span(1020, 1060)}, {example(), 0, 10, span(950, 1010)}, {example(), 2, 10, span(750, 850)},
		{example(), 0, 0, span(900, 920)}, {example(), 0, 1, span(905, 929)}, {example(), 0, 200, span(1900, 2720)},
		{crowded, 0, 10, span(900, 950)}, {crowded, 1, 10, span(1000, 1000)}, {crowded, 2, 200, span(700, 1360)},
		{still, 1, 200, span(1000, 1000)}, {thick, 0, 200, span(20001, 24000)},
	} {
		if girth, e := stand.Girth(x.s, x.tree, x.years); girth != x.want || e != api.OK {
			t.Errorf("the tree %d after %d years: %v, %d, want %v", x.tree, x.years, girth, e, x.want)
		}
	}
	for _, years := range append(slices.Clone(odd), 201) {
		if girth, e := stand.Girth(example(), 0, years); girth != (api.Span{}) || e != api.ErrRange {
			t.Errorf("after %d years: %v, %d", years, girth, e)
		}
	}
}

// P1.3

func TestFaces(t *testing.T) {
	for _, x := range []struct {
		tree, years int
		want        api.Span
	}{
		{0, 0, span(0, 0)}, {0, 3, span(0, 0)}, {0, 4, span(0, 1)}, {0, 9, span(0, 1)}, {0, 10, span(1, 1)},
		{0, 43, span(1, 2)}, {0, 80, span(2, 2)}, {0, 87, span(2, 3)}, {0, 160, span(3, 3)}, {0, 200, span(3, 3)},
		{1, 0, span(0, 0)}, {1, 9, span(0, 0)}, {1, 200, span(0, 0)}, {2, 200, span(3, 3)}, {2, 199, span(2, 3)},
	} {
		if faces, e := stand.Faces(exampleRule(), example(), x.tree, x.years); faces != x.want || e != api.OK {
			t.Errorf("the tree %d after %d years: %v, %d, want %v", x.tree, x.years, faces, e, x.want)
		}
	}
	for _, years := range append(slices.Clone(odd), 201) {
		if faces, e := stand.Faces(exampleRule(), example(), 2, years); faces != (api.Span{}) || e != api.ErrRange {
			t.Errorf("after %d years: %v, %d", years, faces, e)
		}
	}
}

func TestFacesAtTheNumbers(t *testing.T) {
	rule := api.StandRule{Girth: [3]int{10, 11, 20}, Crown: 50}
	for girth, want := range map[int]int{1: 0, 9: 0, 10: 1, 11: 2, 12: 2, 19: 2, 20: 3, 21: 3, 4000: 3} {
		if faces, e := stand.Faces(rule, row(girth), 0, 0); faces != span(want, want) || e != api.OK {
			t.Errorf("the girth %d: %v, %d", girth, faces, e)
		}
	}
	for crown, want := range map[int]api.Span{0: {}, 49: {}, 50: span(2, 2), 51: span(2, 2), 100: span(2, 2)} {
		s := row(12)
		s.Trees[0].Crown = crown
		if faces, e := stand.Faces(rule, s, 0, 200); faces != want || e != api.OK {
			t.Errorf("the crown %d: %v, %d", crown, faces, e)
		}
	}
}

func TestReady(t *testing.T) {
	for _, x := range []struct {
		tree, faces int
		want        api.Span
	}{
		{0, 1, span(4, 10)}, {0, 2, span(43, 80)}, {0, 3, span(87, 160)},
		{1, 1, span(201, 201)}, {1, 2, span(201, 201)}, {1, 3, span(201, 201)},
		{2, 1, span(22, 50)}, {2, 2, span(60, 120)}, {2, 3, span(105, 200)},
	} {
		if ready, e := stand.Ready(exampleRule(), example(), x.tree, x.faces); ready != x.want || e != api.OK {
			t.Errorf("the tree %d for %d: %v, %d, want %v", x.tree, x.faces, ready, e, x.want)
		}
	}
	for _, faces := range append(slices.Clone(odd), 0, 4) {
		if ready, e := stand.Ready(exampleRule(), example(), 0, faces); ready != (api.Span{}) || e != api.ErrRange {
			t.Errorf("for %d: %v, %d", faces, ready, e)
		}
	}
}

func TestReadyAtTheEnds(t *testing.T) {
	rule := api.StandRule{Girth: [3]int{100, 200, 300}, Crown: 50}
	for _, x := range []struct {
		girth, grow api.Span
		want        [3]api.Span
	}{
		{span(300, 300), span(0, 0), [3]api.Span{span(0, 0), span(0, 0), span(0, 0)}},
		{span(100, 200), span(0, 0), [3]api.Span{span(0, 0), span(0, 201), span(201, 201)}},
		{span(99, 99), span(0, 1), [3]api.Span{span(1, 201), span(101, 201), span(201, 201)}},
		{span(100, 100), span(1, 1), [3]api.Span{span(0, 0), span(100, 100), span(200, 200)}},
		{span(99, 100), span(1, 1), [3]api.Span{span(0, 1), span(100, 101), span(200, 201)}},
		{span(99, 99), span(1, 1), [3]api.Span{span(1, 1), span(101, 101), span(201, 201)}},
		{span(1, 1), span(7, 100), [3]api.Span{span(1, 15), span(2, 29), span(3, 43)}},
	} {
		s := api.Stand{Grow: x.grow, Trees: []api.Tree{{Tag: "t", Girth: x.girth, Crown: 50}}}
		for i, want := range x.want {
			if ready, e := stand.Ready(rule, s, 0, i+1); ready != want || e != api.OK {
				t.Errorf("%v, %v for %d: %v, %d, want %v", x.girth, x.grow, i+1, ready, e, want)
			}
		}
		s.Trees[0].Crown = 49
		for faces := 1; faces <= 3; faces++ {
			if ready, e := stand.Ready(rule, s, 0, faces); ready != span(201, 201) || e != api.OK {
				t.Errorf("%v, %v, less crown, for %d: %v, %d", x.girth, x.grow, faces, ready, e)
			}
		}
	}
}

// P1.8

// truth throws the girths of a tree, year by year, as they can truly be.
func truth(d *dice, start, rate api.Span, kind int) []int {
	throw := func(s api.Span) int {
		switch kind {
		case 0:
			return s.Low
		case 1:
			return s.High
		}
		return s.Low + d.upTo(s.High-s.Low)
	}
	girths := []int{throw(start)}
	for range 200 {
		girths = append(girths, girths[len(girths)-1]+throw(rate))
	}
	return girths
}

// rateOf counts neighbours in its own way.
func rateOf(s api.Stand, tree int) api.Span {
	rate := s.Grow
	for i, o := range s.Trees {
		x, y := o.X-s.Trees[tree].X, o.Y-s.Trees[tree].Y
		if i != tree && x*x+y*y <= s.Near*s.Near {
			rate.Low, rate.High = rate.Low-s.Press, rate.High-s.Press
		}
	}
	return span(max(0, rate.Low), max(0, rate.High))
}

func facesOf(r api.StandRule, t api.Tree, girth int) int {
	n := 0
	for _, g := range r.Girth {
		if t.Crown >= r.Crown && girth >= g {
			n++
		}
	}
	return n
}

func TestWhatIsTrue(t *testing.T) {
	d := &dice{1}
	for round := range 60 {
		s, r := d.stand(1+d.upTo(13)), d.rule()
		for tree := range s.Trees {
			var first [2][3]int // the first years of the least, and of the greatest growth
			for kind := range 3 {
				girths := truth(d, s.Trees[tree].Girth, rateOf(s, tree), kind)
				years := holdsYearByYear(t, r, s, tree, kind, girths)
				if kind < 2 {
					first[kind] = years
				}
				for i, year := range years {
					ready, e := stand.Ready(r, s, tree, i+1)
					if e != api.OK || year < ready.Low || year > ready.High {
						t.Fatalf("round %d, the tree %d is ready for %d in the year %d: %v, %d", round, tree, i+1, year, ready, e)
					}
				}
			}
			for i := range 3 {
				if ready, e := stand.Ready(r, s, tree, i+1); ready != span(first[1][i], first[0][i]) || e != api.OK {
					t.Fatalf("round %d, the tree %d for %d: %v, %d, want %v", round, tree, i+1, ready, e, first)
				}
			}
		}
	}
}

// holdsYearByYear checks a truth (0: of the least growth, 1: of the greatest one), and returns the first years of one, two and three faces.
func holdsYearByYear(t *testing.T, r api.StandRule, s api.Stand, tree, kind int, girths []int) [3]int {
	first := [3]int{201, 201, 201}
	for year, g := range girths {
		girth, e1 := stand.Girth(s, tree, year)
		faces, e2 := stand.Faces(r, s, tree, year)
		n := facesOf(r, s.Trees[tree], g)
		if e1 != api.OK || e2 != api.OK || g < girth.Low || g > girth.High || n < faces.Low || n > faces.High {
			t.Fatalf("the girth %d and %d faces in the year %d: %v, %v", g, n, year, girth, faces)
		}
		if kind == 0 && (g != girth.Low || n != faces.Low) || kind == 1 && (g != girth.High || n != faces.High) {
			t.Fatalf("kind %d, the girth %d and %d faces in the year %d: %v, %v", kind, g, n, year, girth, faces)
		}
		for i := range n {
			first[i] = min(first[i], year)
		}
	}
	return first
}

// P1.9

func TestNeighboursOfEachOther(t *testing.T) {
	d := &dice{2}
	for range 100 {
		s := d.stand(d.upTo(14))
		is := map[[2]int]bool{}
		for tree := range s.Trees {
			near, e := stand.Near(s, tree)
			if e != api.OK || !slices.IsSorted(near) || slices.Contains(near, tree) {
				t.Fatalf("the tree %d of %v: %v, %d", tree, s, near, e)
			}
			for _, o := range near {
				is[[2]int{tree, o}] = true
			}
		}
		for pair := range is {
			if !is[[2]int{pair[1], pair[0]}] {
				t.Fatalf("%v: only one of %v is near the other one", s, pair)
			}
		}
	}
}

func TestThinnedGrowsNoLess(t *testing.T) {
	d := &dice{3}
	for range 60 {
		s, r := d.stand(1+d.upTo(13)), d.rule()
		kept, _, e := stand.Thin(s, d.upTo(9))
		if e != api.OK {
			t.Fatalf("Thin: %d", e)
		}
		growsNoLess(t, r, s, kept)
		var some []int
		for tree := range s.Trees {
			if d.upTo(1) == 0 {
				some = append(some, tree)
			}
		}
		growsNoLess(t, r, s, some)
	}
}

func growsNoLess(t *testing.T, r api.StandRule, s api.Stand, kept []int) {
	left, e := stand.Left(s, kept)
	if e != api.OK {
		t.Fatalf("Left: %d", e)
	}
	for now, before := range kept {
		for _, years := range []int{0, 1, 17, 200} {
			g0, _ := stand.Girth(s, before, years)
			g1, e1 := stand.Girth(left, now, years)
			f0, _ := stand.Faces(r, s, before, years)
			f1, e2 := stand.Faces(r, left, now, years)
			if e1 != api.OK || e2 != api.OK || g1.Low < g0.Low || g1.High < g0.High || f1.Low < f0.Low || f1.High < f0.High {
				t.Fatalf("the tree %d of %v, left with %v, after %d years: %v, %v and then %v, %v", before, s, kept, years, g0, f0, g1, f1)
			}
		}
		for faces := 1; faces <= 3; faces++ {
			y0, _ := stand.Ready(r, s, before, faces)
			y1, e := stand.Ready(r, left, now, faces)
			if e != api.OK || y1.Low > y0.Low || y1.High > y0.High {
				t.Fatalf("the tree %d of %v, left with %v, is ready for %d: %v and then %v", before, s, kept, faces, y0, y1)
			}
		}
	}
}
