package stand_test

import (
	"math"
	"slices"
	"strconv"
	"strings"
	"testing"

	"pinaster/api"
	"pinaster/stand"
)

// P1.1

func TestIsWordByLength(t *testing.T) {
	for n := range 40 {
		want := n >= 1 && n <= 16
		if is := stand.IsWord(strings.Repeat("k", n)); is != want {
			t.Errorf("a word of %d letters: %v", n, is)
		}
	}
}

func TestIsWordByByte(t *testing.T) {
	for n := range 256 {
		c := string([]byte{byte(n)})
		letter := n >= 'a' && n <= 'z'
		other := letter || n >= '0' && n <= '9' || n == '-'
		if is := stand.IsWord(c); is != letter {
			t.Errorf("IsWord(%q): %v", c, is)
		}
		if is := stand.IsWord(c + "bc"); is != letter {
			t.Errorf("IsWord(%q): %v", c+"bc", is)
		}
		for _, s := range []string{"a" + c, "a" + c + "z", "abcdefghijklmno" + c} {
			if is := stand.IsWord(s); is != other {
				t.Errorf("IsWord(%q): %v", s, is)
			}
		}
	}
	for _, s := range []string{"a\u00e9", "\u03b1", "a\u0660", "a\uff0d"} {
		if stand.IsWord(s) {
			t.Errorf("IsWord(%q)", s)
		}
	}
}

// limit is one number of a stand, and from where to where it may be.
type limit struct {
	name        string
	at          func(s *api.Stand) *int
	least, most int
}

func limitsOfStand() []limit {
	l := []limit{
		{"press", func(s *api.Stand) *int { return &s.Press }, 0, 100},
		{"near", func(s *api.Stand) *int { return &s.Near }, 0, 100000},
		{"grow low", func(s *api.Stand) *int { return &s.Grow.Low }, 0, 12},
		{"grow high", func(s *api.Stand) *int { return &s.Grow.High }, 8, 100},
	}
	for i, tree := range example().Trees {
		n := " of the tree " + strconv.Itoa(i)
		l = append(l,
			limit{"y" + n, func(s *api.Stand) *int { return &s.Trees[i].Y }, 0, 100000},
			limit{"girth low" + n, func(s *api.Stand) *int { return &s.Trees[i].Girth.Low }, 1, tree.Girth.High},
			limit{"girth high" + n, func(s *api.Stand) *int { return &s.Trees[i].Girth.High }, tree.Girth.Low, 4000},
			limit{"crown" + n, func(s *api.Stand) *int { return &s.Trees[i].Crown }, 0, 100},
		)
	}
	for i := range example().Trees {
		l = append(l, limit{"x of the tree " + strconv.Itoa(i), func(s *api.Stand) *int {
			s.Trees[i].Y = 7 // where no other tree is, whatever its x
			return &s.Trees[i].X
		}, 0, 100000})
	}
	return l
}

func TestCheckLimits(t *testing.T) {
	for _, l := range limitsOfStand() {
		for _, n := range []int{l.least, l.most} {
			s := example()
			*l.at(&s) = n
			if e := stand.Check(s); e != api.OK {
				t.Errorf("%s %d: %d", l.name, n, e)
			}
		}
		for _, n := range []int{l.least - 1, l.most + 1, math.MinInt, math.MaxInt} {
			s := example()
			*l.at(&s) = n
			if e := stand.Check(s); e != api.ErrStand {
				t.Errorf("%s %d: %d", l.name, n, e)
			}
		}
	}
}

func TestCheckTrees(t *testing.T) {
	full := row(5, 5, 5, 5, 5, 5, 5, 5, 5, 5, 5, 5, 5, 5)
	if e := stand.Check(full); len(full.Trees) != api.StandTrees || e != api.OK {
		t.Errorf("%d trees: %d", len(full.Trees), e)
	}
	if e := stand.Check(row(5, 5, 5, 5, 5, 5, 5, 5, 5, 5, 5, 5, 5, 5, 5)); e != api.ErrStand {
		t.Errorf("a tree more: %d", e)
	}
	for _, s := range []api.Stand{{}, {Trees: []api.Tree{}}} {
		if e := stand.Check(s); e != api.OK {
			t.Errorf("no tree: %d", e)
		}
	}
	for i := range full.Trees {
		for _, tag := range []string{"", "A", "1a", "-", "a b", "a\n", "abcdefghijklmnopq"} {
			s := cloneStand(full)
			s.Trees[i].Tag = tag
			if e := stand.Check(s); e != api.ErrStand {
				t.Errorf("the tag %q of the tree %d: %d", tag, i, e)
			}
		}
	}
}

func TestCheckDifferentTrees(t *testing.T) {
	full := row(5, 6, 7, 8, 9, 10, 11, 12, 13, 14, 15, 16, 17, 18)
	for i := range full.Trees {
		for k := range i {
			s := cloneStand(full)
			s.Trees[i].Tag = s.Trees[k].Tag
			if e := stand.Check(s); e != api.ErrStand {
				t.Errorf("the trees %d and %d with one tag: %d", k, i, e)
			}
			s = cloneStand(full)
			s.Trees[i].X = s.Trees[k].X
			if e := stand.Check(s); e != api.ErrStand {
				t.Errorf("the trees %d and %d at one place: %d", k, i, e)
			}
			s.Trees[i].Y = 1
			if e := stand.Check(s); e != api.OK {
				t.Errorf("the trees %d and %d with one x: %d", k, i, e)
			}
		}
	}
	same := row(5, 5)
	same.Trees[1].X, same.Trees[0].Y, same.Trees[1].Y = 3, 3, 0
	if e := stand.Check(same); e != api.OK {
		t.Errorf("0 3 and 3 0 are two places: %d", e)
	}
}

func TestCheckRule(t *testing.T) {
	for _, r := range []api.StandRule{
		exampleRule(),
		{Girth: [3]int{1, 2, 3}, Crown: 0},
		{Girth: [3]int{3998, 3999, 4000}, Crown: 100},
		{Girth: [3]int{1, 2, 4000}, Crown: 1},
	} {
		if e := stand.CheckRule(r); e != api.OK {
			t.Errorf("%v: %d", r, e)
		}
	}
	for _, r := range []api.StandRule{
		{},
		{Girth: [3]int{0, 2, 3}},
		{Girth: [3]int{-1, 2, 3}},
		{Girth: [3]int{math.MinInt, 2, 3}},
		{Girth: [3]int{2, 2, 3}},
		{Girth: [3]int{3, 2, 4}},
		{Girth: [3]int{1, 3, 3}},
		{Girth: [3]int{1, 3, 2}},
		{Girth: [3]int{3, 4, 2}},
		{Girth: [3]int{1, 2, 4001}},
		{Girth: [3]int{1, 4001, 4002}},
		{Girth: [3]int{4001, 4002, 4003}},
		{Girth: [3]int{1, 2, math.MaxInt}},
		{Girth: [3]int{1, math.MaxInt, math.MinInt}},
		{Girth: [3]int{1, 2, 3}, Crown: -1},
		{Girth: [3]int{1, 2, 3}, Crown: 101},
		{Girth: [3]int{1, 2, 3}, Crown: math.MaxInt},
		{Girth: [3]int{1, 2, 3}, Crown: math.MinInt},
	} {
		if e := stand.CheckRule(r); e != api.ErrStandRule {
			t.Errorf("%v: %d", r, e)
		}
	}
}

// what the functions with a tree answer; their numbers are made the same for all of them.
func callsWithTree(r api.StandRule, s api.Stand, tree, number int) map[string]api.Errno {
	errors := map[string]api.Errno{}
	near, e := stand.Near(s, tree)
	errors["Near"] = zeroOr(e, len(near) == 0)
	girth, e := stand.Girth(s, tree, number)
	errors["Girth"] = zeroOr(e, girth == api.Span{})
	faces, e := stand.Faces(r, s, tree, number)
	errors["Faces"] = zeroOr(e, faces == api.Span{})
	ready, e := stand.Ready(r, s, tree, number)
	errors["Ready"] = zeroOr(e, ready == api.Span{})
	return errors
}

// zeroOr returns an error, or -1 if a result that comes with it is not zero.
func zeroOr(e api.Errno, zero bool) api.Errno {
	if e != api.OK && !zero {
		return -1
	}
	return e
}

func TestOrderOfErrors(t *testing.T) {
	trees := []int{3, -1, math.MaxInt, math.MinInt}
	for _, tree := range append(trees, 0, 1, 2) {
		for _, number := range append(slices.Clone(odd), 1) {
			for name, e := range callsWithTree(wrongRule(), wrongStand(), tree, number) {
				want := api.ErrStand
				if name == "Faces" || name == "Ready" {
					want = api.ErrStandRule
				}
				if e != want {
					t.Errorf("%s with a wrong rule and stand, the tree %d, and %d: %d", name, tree, number, e)
				}
			}
			for name, e := range callsWithTree(exampleRule(), wrongStand(), tree, number) {
				if e != api.ErrStand {
					t.Errorf("%s with a wrong stand, the tree %d, and %d: %d", name, tree, number, e)
				}
			}
			for name, e := range callsWithTree(wrongRule(), example(), tree, number) {
				if (name == "Faces" || name == "Ready") && e != api.ErrStandRule {
					t.Errorf("%s with a wrong rule, the tree %d, and %d: %d", name, tree, number, e)
				}
			}
		}
	}
	for _, tree := range trees {
		for _, number := range append(slices.Clone(odd), 1) {
			for name, e := range callsWithTree(exampleRule(), example(), tree, number) {
				if e != api.ErrTree {
					t.Errorf("%s with the tree %d, and %d: %d", name, tree, number, e)
				}
			}
		}
	}
	for name, e := range callsWithTree(exampleRule(), api.Stand{}, 0, 1) {
		if e != api.ErrTree {
			t.Errorf("%s with the tree 0 of none: %d", name, e)
		}
	}
}

func TestErrorsOfSets(t *testing.T) {
	for _, gap := range append(slices.Clone(odd), 0, 30) {
		kept, worth, e := stand.Thin(wrongStand(), gap)
		if len(kept) != 0 || worth != 0 || e != api.ErrStand {
			t.Errorf("Thin of a wrong stand with the gap %d: %v, %d, %d", gap, kept, worth, e)
		}
	}
	for _, kept := range [][]int{nil, {0}, {-1}, {3}, {1, 1}} {
		s, e := stand.Left(wrongStand(), kept)
		if !isZeroStand(s) || e != api.ErrStand {
			t.Errorf("Left of a wrong stand and %v: %v, %d", kept, s, e)
		}
	}
	if text, e := stand.Print(wrongStand()); text != "" || e != api.ErrStand {
		t.Errorf("Print of a wrong stand: %q, %d", text, e)
	}
}
