package purse_test

import (
	"slices"
	"testing"

	"pinaster/api"
	"pinaster/purse"
)

// audit checks pairs and a cover of two books, and returns how many there are.
func audit(t *testing.T, a, b []api.PurseEntry, n api.PurseNear) (pairs, cover int) {
	t.Helper()
	p, e1 := purse.Agree(a, b, n)
	c, e2 := purse.Cover(a, b, n)
	if !arePairs(a, b, n, p) || !isCover(a, b, n, c) || e1 != api.OK || e2 != api.OK {
		t.Fatalf("%v, %v, %v: %v, %v, %d, %d", a, b, n, p, c, e1, e2)
	}
	return len(p), len(c.A) + len(c.B)
}

// steps are books of so many days each, in which each entry of A agrees with that of B of the same day, and of the next one.
func steps(many int) (a, b []api.PurseEntry) {
	for i := range many {
		a, b = append(a, entry(2*i, 0, 0)), append(b, entry(2*i+1, 0, 0))
	}
	return a, b
}

// P8.5

func TestPairsAndCovers(t *testing.T) {
	star := days(10, 10, 10, 10, 10)
	for i, x := range []struct {
		a, b []api.PurseEntry
		n    api.PurseNear
		want int
	}{
		{bookA(), bookB(), near(1, 5), 1}, {bookB(), bookA(), near(1, 5), 1}, {bookA(), bookB(), near(1, 10), 2}, {bookA(), bookB(), near(0, 1), 0}, {bookA(), bookB(), near(0, 2), 1}, {bookA(), bookB(), near(30, 1000000), 2},
		{bookA(), bookA(), near(0, 0), 3}, {bookA(), bookA(), near(30, 1000000), 3}, {nil, bookB(), near(1, 5), 0}, {bookA(), nil, near(1, 5), 0}, {nil, nil, near(0, 0), 0},
		{days(1, 3, 5), days(2, 4, 0), near(1, 0), 3}, {days(5, 3, 1), days(2, 4, 0), near(1, 0), 3}, {days(1, 1, 1, 9), days(2, 8, 7), near(1, 0), 2}, {days(2, 4, 6), days(1, 3, 5), near(1, 0), 3}, {days(3, 1), days(2, 4), near(1, 0), 2}, {days(1, 3), days(2, 4), near(1, 0), 2}, {days(3, 1), days(4, 2), near(1, 0), 2},
		{star, days(10), near(0, 0), 1}, {days(10), star, near(0, 0), 1}, {star, days(9, 11), near(1, 0), 2}, {star, star, near(0, 0), 5}, {star, days(40), near(30, 0), 1}, {star, days(41), near(30, 0), 0},
		{[]api.PurseEntry{entry(5, 0, 7)}, []api.PurseEntry{entry(5, 1, 7)}, near(30, 1000000), 0}, {[]api.PurseEntry{entry(0, 7, 0)}, []api.PurseEntry{entry(30, 7, 1000000)}, near(30, 1000000), 1}, {[]api.PurseEntry{entry(36500, 7, 1000000)}, []api.PurseEntry{entry(36500, 7, 1000000)}, near(0, 0), 1},
	} {
		if pairs, cover := audit(t, x.a, x.b, x.n); pairs != x.want || cover != x.want {
			t.Errorf("%d: %d pairs, a cover of %d, want %d", i, pairs, cover, x.want)
		}
	}
}

func TestEntriesThatAgree(t *testing.T) {
	for _, x := range []struct {
		a, b api.PurseEntry
		n    api.PurseNear
		want bool
	}{
		{entry(10, 2, 50), entry(13, 2, 50), near(3, 0), true}, {entry(10, 2, 50), entry(13, 2, 50), near(2, 9), false}, {entry(10, 2, 50), entry(10, 2, 57), near(0, 7), true}, {entry(10, 2, 50), entry(10, 2, 57), near(9, 6), false}, {entry(10, 2, 50), entry(10, 3, 50), near(9, 9), false},
		{entry(10, 2, 57), entry(13, 2, 50), near(3, 7), true}, {entry(10, 2, 57), entry(13, 2, 50), near(2, 7), false}, {entry(10, 2, 57), entry(13, 2, 50), near(3, 6), false}, {entry(10, 2, 50), entry(10, 2, 50), near(0, 0), true}, {entry(0, 0, 0), entry(36500, 0, 0), near(30, 0), false},
	} {
		for _, books := range [][2]api.PurseEntry{{x.a, x.b}, {x.b, x.a}} {
			a, b := books[:1], books[1:]
			pairs, cover := audit(t, a, b, x.n)
			inA, inB, e := purse.Open(a, b, x.n)
			if pairs == 1 != x.want || cover != pairs || len(inA) != 1-pairs || len(inB) != 1-pairs || e != api.OK {
				t.Errorf("%v and %v by %v: %d, %d, %v, %v, %d", x.a, x.b, x.n, pairs, cover, inA, inB, e)
			}
		}
	}
}

func TestOpen(t *testing.T) {
	for i, x := range []struct {
		a, b     []api.PurseEntry
		n        api.PurseNear
		inA, inB []int
	}{
		{bookA(), bookB(), near(1, 5), []int{2}, []int{1}}, {bookB(), bookA(), near(1, 5), []int{1}, []int{2}}, {bookA(), bookB(), near(1, 10), nil, nil}, {bookA(), bookB(), near(0, 2), []int{0, 2}, []int{1}}, {bookA(), bookB(), near(0, 1), []int{0, 1, 2}, []int{0, 1}},
		{nil, bookB(), near(1, 5), nil, []int{0, 1}}, {bookA(), nil, near(1, 5), []int{0, 1, 2}, nil}, {nil, nil, near(1, 5), nil, nil}, {days(1, 1, 1, 9), days(2, 8, 7), near(1, 0), nil, []int{2}}, // without a pair, but they agree
		{days(5, 9, 1), days(9, 3, 20), near(0, 0), []int{0, 2}, []int{1, 2}}, {days(5, 9, 1), days(9, 3, 20), near(1, 0), []int{0, 2}, []int{1, 2}}, {days(5, 9, 1), days(9, 3, 20), near(2, 0), nil, []int{2}},
	} {
		if inA, inB, e := purse.Open(x.a, x.b, x.n); !slices.Equal(inA, x.inA) || !slices.Equal(inB, x.inB) || e != api.OK {
			t.Errorf("%d: %v, %v, %d, want %v, %v", i, inA, inB, e, x.inA, x.inB)
		}
	}
}

func TestLongestChains(t *testing.T) {
	for many := 1; many <= 16; many++ {
		a, b := steps(many)
		back := slices.Clone(b)
		slices.Reverse(back)
		for _, books := range [][2][]api.PurseEntry{{a, b}, {a, back}, {b, a}, {back, a}} {
			if pairs, cover := audit(t, books[0], books[1], near(1, 0)); pairs != many || cover != many {
				t.Errorf("%d: %d pairs, a cover of %d", many, pairs, cover)
			}
			if pairs, cover := audit(t, books[0][:many-1], books[1], near(1, 0)); pairs != many-1 || cover != many-1 {
				t.Errorf("%d without one: %d pairs, a cover of %d", many, pairs, cover)
			}
		}
	}
}

func TestAuditsAgainstAllPairsAndCovers(t *testing.T) {
	d := &dice{10}
	seen := map[int]int{}
	for range 1500 {
		a, b, n := d.book(d.upTo(6), 9, 1, 9), d.book(d.upTo(6), 9, 1, 9), near(d.upTo(4), d.upTo(6))
		want, least := mostPairs(a, b, n), leastCover(a, b, n)
		if pairs, cover := audit(t, a, b, n); pairs != want || cover != least {
			t.Fatalf("%v, %v, %v: %d pairs, a cover of %d, want %d, %d", a, b, n, pairs, cover, want, least)
		}
		seen[want]++
	}
	if len(seen) < 6 {
		t.Errorf("pairs that were seen: %v", seen)
	}
}

// P8.10

func TestAsManyPairsAsEntriesInACover(t *testing.T) {
	d := &dice{11}
	seen := map[int]int{}
	for range 5000 {
		wide := d.from(1, 60)
		a, b := d.book(d.upTo(16), wide, d.upTo(2), d.upTo(wide)), d.book(d.from(8, 16), wide, d.upTo(2), d.upTo(wide))
		n := near(d.upTo(min(30, wide/4)), d.upTo(wide))
		pairs, cover := audit(t, a, b, n)
		if pairs != cover {
			t.Fatalf("%v, %v, %v: %d pairs, a cover of %d", a, b, n, pairs, cover)
		}
		seen[pairs]++
		inA, inB, e := purse.Open(a, b, n)
		if !slices.Equal(inA, alone(a, b, n)) || !slices.Equal(inB, alone(b, a, n)) || e != api.OK {
			t.Fatalf("%v, %v, %v: %v, %v, %d", a, b, n, inA, inB, e)
		}
	}
	if len(seen) < 16 {
		t.Errorf("pairs that were seen: %v", seen)
	}
}
