package pot_test

import (
	"math/bits"
	"slices"
	"testing"

	"pinaster/api"
	"pinaster/pot"
)

// P3.5

// leaves checks what Leave returns, and that its plan keeps all others.
func leaves(t *testing.T, r api.PotRun, want []int) {
	t.Helper()
	left, plan, e := pot.Leave(r)
	if !slices.Equal(left, want) || !isPlan(r, plan) || e != api.OK {
		t.Fatalf("%v: %v, %v, %d, want %v", r, left, plan, e, want)
	}
	for i := range r.Pots {
		if !slices.Contains(left, i) && runsOver(r, worst(r), i, daysOf(plan, i)) < len(r.Days) {
			t.Fatalf("%v: left %v, but %v does not keep %d", r, left, plan, i)
		}
	}
	kept, e := pot.Keeps(r, plan)
	if len(kept) < len(r.Pots)-len(left) || e != api.OK {
		t.Fatalf("%v: left %v, but %v keeps %v, %d", r, left, plan, kept, e)
	}
}

func TestLeave(t *testing.T) {
	small, two, idle, full := run(), run(), run(), steady(1, 1, 5, 10, 10)
	small.Pots[1].Size = 99
	two.Hands = 2
	idle.Hands = 0
	full.Pots[1].Has, full.Pots[2].Has = span(0, 10), span(0, 10)
	for _, x := range []struct {
		r    api.PotRun
		want []int
	}{
		{run(), []int{0}}, {small, []int{0, 1}}, {two, nil}, {idle, []int{0, 2}}, {full, []int{0, 1}},
		{steady(1, 1), nil}, {steady(0, 8), nil}, {steady(3, 8, 10, 10, 10), nil}, {steady(3, 8, 10, 9, 10), []int{1}},
		{steady(0, 1, 10, 9, 10, 9), []int{1, 3}}, {steady(0, 1, 9, 9, 9, 9, 9, 9), []int{0, 1, 2, 3, 4, 5}},
		{steady(3, 8, 9, 9, 9, 9, 9, 9), []int{0, 1, 2, 3, 4, 5}},
		// as often as each day, each other day, each third day
		{steady(1, 8, 10, 80), nil}, {steady(1, 8, 10, 20), []int{0}}, {steady(1, 8, 20, 10), []int{0}}, {steady(2, 8, 10, 20), nil},
		{steady(1, 8, 20, 20), nil}, {steady(2, 8, 20, 20, 20, 20), nil}, {steady(2, 8, 20, 20, 20, 20, 20), []int{0}}, {steady(3, 8, 20, 20, 20, 20, 20, 20), nil},
		{steady(1, 8, 30, 30, 30), nil}, {steady(1, 8, 30, 20), nil}, {steady(2, 8, 30, 30, 30, 30, 30, 30), nil},
		// who is emptied too early must be emptied again
		{steady(1, 4, 20, 20, 30), []int{0}}, {steady(1, 3, 20, 20, 30), nil}, {steady(1, 8, 40, 20, 40), nil}, {steady(1, 8, 60, 20, 60), nil},
	} {
		leaves(t, x.r, x.want)
	}
	for hands, want := range [][]int{{0, 1, 2, 3, 4, 5}, {0, 1, 2, 3, 4}, {0, 1, 2, 3}, {0, 1, 2}} {
		leaves(t, steady(hands, 3, 10, 10, 10, 10, 10, 10), want)
	}
}

func TestLeaveTheFirst(t *testing.T) {
	// one of the pots that come often must be left, or two of the others: fewer ones first, then the first ones
	leaves(t, steady(1, 8, 30, 30, 30, 10), []int{3})
	leaves(t, steady(1, 8, 80, 30, 30, 10, 30), []int{3})
	leaves(t, steady(1, 8, 20, 80, 20, 20), []int{0})
	leaves(t, steady(1, 8, 80, 20, 10, 20), []int{2})
	leaves(t, steady(1, 8, 80, 10, 10, 10), []int{1, 2})
	leaves(t, steady(1, 8, 9, 20, 10, 20), []int{0, 2})
}

// keepable tells of each set of pots (bits) whether some plan keeps all of it, of all sets of days for each pot.
func keepable(r api.PotRun) []bool {
	days := len(r.Days)
	can := make([]bool, 1<<len(r.Pots))
	for set := range can {
		var fill func(i int, hands [api.PotDays]int) bool
		fill = func(i int, hands [api.PotDays]int) bool {
			if i == len(r.Pots) {
				return true
			}
			if set>>i&1 == 0 {
				return fill(i+1, hands)
			}
			for emptied := range uint(1) << days {
				now, ok := hands, runsOver(r, worst(r), i, emptied) == days
				for day := range days {
					now[day] += int(emptied >> day & 1)
					ok = ok && now[day] <= r.Hands
				}
				if ok && fill(i+1, now) {
					return true
				}
			}
			return false
		}
		can[set] = fill(0, [api.PotDays]int{})
	}
	return can
}

// leftOf tells in its own way which pots are left.
func leftOf(r api.PotRun) []int {
	all := 1<<len(r.Pots) - 1
	var best []int
	found := false
	for set, can := range keepable(r) {
		if !can {
			continue
		}
		var left []int
		for i := range r.Pots {
			if (all&^set)>>i&1 == 1 {
				left = append(left, i)
			}
		}
		if !found || len(left) < len(best) || len(left) == len(best) && slices.Compare(left, best) < 0 {
			best, found = left, true
		}
	}
	return best
}

// P3.10

func TestLeaveAgainstAllPlans(t *testing.T) {
	d := &dice{5}
	var times [7]int
	for round := range 700 {
		r := d.run(d.from(1, 4), d.from(1, 5))
		if round%2 == 0 { // pots that hold two or three days
			r = steady(d.from(1, 2), d.from(3, 5))
			r.Days[d.upTo(2)].Warm.High = 10 * d.upTo(3)
			for i := range d.from(2, 4) {
				r.Pots = append(r.Pots, api.Pot{Tag: "s" + string(rune('a'+i)), Size: 10 * d.from(1, 4), Flow: 1, Has: span(0, 10*d.upTo(1))})
			}
		}
		want := leftOf(r)
		leaves(t, r, want)
		times[len(want)]++
		if _, _, e := pot.Short(r); e == api.OK && len(want) == 0 {
			t.Fatalf("%v: some days are short, but no pot is left", r)
		}
	}
	if times[0] < 40 || times[1] < 40 || times[2] < 40 {
		t.Errorf("pots left: %v", times)
	}
}

func TestLeaveMore(t *testing.T) {
	d := &dice{6}
	short := 0
	for range 1500 {
		r := d.run(d.upTo(6), d.from(1, 8))
		left, plan, e := pot.Leave(r)
		if e != api.OK || !isPlan(r, plan) {
			t.Fatalf("%v: %v, %v, %d", r, left, plan, e)
		}
		leaves(t, r, left)
		if _, _, e := pot.Short(r); e == api.OK {
			short++
			if len(left) == 0 {
				t.Fatalf("%v: some days are short, but no pot is left", r)
			}
		}
		for range 5 { // no plan keeps more
			if kept, e := pot.Keeps(r, d.plan(r)); len(kept) > len(r.Pots)-len(left) || e != api.OK {
				t.Fatalf("%v: left %v, but some plan keeps %v", r, left, kept)
			}
		}
		// P3.11
		n := d.narrower(r)
		if fewer, _, e := pot.Leave(n); len(fewer) > len(left) || e != api.OK {
			t.Fatalf("%v: left %v; %v: left %v, %d", r, left, n, fewer, e)
		}
	}
	if short < 200 {
		t.Errorf("only %d runs are short", short)
	}
}

// P3.6

func TestNeed(t *testing.T) {
	small, full := run(), steady(1, 3, 10, 20)
	small.Pots[1].Size = 99
	full.Pots[0].Has, full.Pots[1].Has = span(0, 1), span(0, 20)
	last := steady(1, 4, 25)
	last.Days[3].Warm = span(0, 26)
	for _, x := range []struct {
		r                   api.PotRun
		pot, from, to, want int
	}{
		{run(), 0, 0, 2, 2}, {run(), 0, 0, 1, 1}, {run(), 0, 0, 0, 0}, {run(), 0, 1, 1, 0}, {run(), 0, 1, 2, 1}, {run(), 0, 2, 2, 0},
		{run(), 1, 0, 2, 0}, {run(), 1, 1, 2, 0}, {run(), 2, 0, 2, 1}, {run(), 2, 1, 2, 1}, {run(), 2, 2, 2, 0}, {run(), 2, 0, 1, 0},
		{small, 1, 0, 0, 2}, {small, 1, 0, 1, 3}, {small, 1, 0, 2, 4}, {small, 1, 1, 1, 2}, {small, 1, 1, 2, 3}, {small, 1, 2, 2, 2},
		// at first, and not: it has something only on the day 0
		{full, 0, 0, 0, 1}, {full, 0, 0, 1, 2}, {full, 0, 0, 2, 3}, {full, 0, 1, 1, 0}, {full, 0, 1, 2, 1}, {full, 0, 2, 2, 0},
		{full, 1, 0, 0, 1}, {full, 1, 0, 1, 1}, {full, 1, 0, 2, 2}, {full, 1, 1, 2, 0},
		// only the last day is too much
		{last, 0, 0, 2, 1}, {last, 0, 0, 3, 5}, {last, 0, 1, 3, 4}, {last, 0, 2, 3, 3}, {last, 0, 3, 3, 2}, {last, 0, 1, 2, 0},
		{steady(0, 8, 10), 0, 0, 7, 7}, {steady(0, 8, 20), 0, 0, 7, 3}, {steady(0, 8, 30), 0, 0, 7, 2}, {steady(0, 8, 80), 0, 0, 7, 0}, {steady(0, 8, 79), 0, 0, 7, 1},
		{steady(0, 8, 20), 0, 3, 7, 2}, {steady(0, 8, 20), 0, 4, 7, 1}, {steady(0, 8, 20), 0, 5, 7, 1}, {steady(0, 8, 20), 0, 6, 7, 0},
	} {
		if need, e := pot.Need(x.r, x.pot, x.from, x.to); need != x.want || e != api.OK {
			t.Errorf("%v, the pot %d from %d to %d: %d, %d, want %d", x.r, x.pot, x.from, x.to, need, e, x.want)
		}
	}
	for _, x := range [][3]int{{2, 2, 1}, {0, 1, 0}, {0, 2, 0}, {3, 0, 0}, {-1, 0, 0}, {0, -1, 0}, {0, -1, 2}, {0, 0, 3}, {0, 3, 3}} {
		if need, e := pot.Need(run(), x[0], x[1], x[2]); need != 0 || e != api.ErrPot {
			t.Errorf("%v: %d, %d", x, need, e)
		}
	}
}

// needOf tries all sets of days.
func needOf(r api.PotRun, pot, from, to int) int {
	r = cloneRun(r)
	r.Days = r.Days[from : to+1]
	if from > 0 {
		r.Pots[pot].Has = span(0, 0)
	}
	need := len(r.Days) + 1
	for emptied := range uint(1) << len(r.Days) {
		if runsOver(r, worst(r), pot, emptied) == len(r.Days) {
			need = min(need, bits.OnesCount(emptied))
		}
	}
	return need
}

func TestNeedAgainstAllDays(t *testing.T) {
	d := &dice{7}
	for range 250 {
		r := d.run(d.upTo(6), d.from(1, 8))
		found, first := api.ErrNone, [2]int{}
		for from := range r.Days {
			for to := from; to < len(r.Days); to++ {
				needs := 0
				for i := range r.Pots {
					want := needOf(r, i, from, to)
					if need, e := pot.Need(r, i, from, to); need != want || e != api.OK {
						t.Fatalf("%v, the pot %d from %d to %d: %d, %d, want %d", r, i, from, to, need, e, want)
					}
					needs += want
				}
				if found != api.OK && needs > r.Hands*(to-from+1) {
					found, first = api.OK, [2]int{from, to}
				}
			}
		}
		if from, to, e := pot.Short(r); from != first[0] || to != first[1] || e != found {
			t.Fatalf("%v: %d, %d, %d, want %v, %d", r, from, to, e, first, found)
		}
	}
}

func TestShort(t *testing.T) {
	idle, small, two := run(), run(), run()
	idle.Hands = 0
	small.Pots[1].Size = 99
	two.Hands = 2
	late := steady(1, 8, 20, 20, 20)
	for day := range 4 {
		late.Days[day].Warm = span(0, 0)
	}
	much := steady(2, 5, 40, 50, 60)
	much.Days[3].Warm = span(0, 45)
	for i, x := range []struct {
		r        api.PotRun
		from, to int
		e        api.Errno
	}{
		{run(), 0, 0, api.ErrNone}, {idle, 0, 1, api.OK}, {small, 0, 0, api.OK}, {two, 0, 0, api.ErrNone},
		{steady(0, 8, 80), 0, 0, api.ErrNone}, {steady(0, 8, 79), 0, 7, api.OK}, {steady(0, 8), 0, 0, api.ErrNone},
		{steady(1, 8, 10), 0, 0, api.ErrNone}, {steady(1, 3, 9), 0, 0, api.OK}, {steady(3, 3, 9, 10, 10), 0, 0, api.ErrNone},
		{steady(1, 8, 10, 10), 0, 2, api.OK}, {steady(1, 8, 20, 20), 0, 0, api.ErrNone}, {steady(1, 8, 20, 20, 20), 0, 4, api.OK},
		{steady(1, 2, 10, 10), 0, 0, api.ErrNone}, {late, 0, 0, api.ErrNone}, {much, 2, 4, api.OK},
	} {
		if from, to, e := pot.Short(x.r); from != x.from || to != x.to || e != x.e {
			t.Errorf("%d: %d, %d, %d", i, from, to, e)
		}
	}
}
