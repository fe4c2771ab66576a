package forester_test

import (
	"fmt"
	"slices"
	"strings"
	"testing"

	"pinaster/api"
	"pinaster/forester"
)

// P11.2

func TestDays(t *testing.T) {
	s := setup()
	s.Day = 100
	f := begin(t, s)
	expectErrors(t, f, api.ErrRange, "day 99", "day 0", "day 36501", "day 999999999")
	expectAll(t, f, "day 100", "", "day 101", "", "day 101", "", "day 100", "!7", "day 36500", "", "day 36500", "", "day 36499", "!7", "day 36501", "!7", "plant a", "1")
	if f.Day() != 36500 {
		t.Errorf("the day %d", f.Day())
	}
	if acts := f.Acts(); !slices.Equal(acts, []api.TreeAct{{Day: 36500, Tag: "a", What: api.TreePlant}}) {
		t.Errorf("acts: %v", acts)
	}
}

// ways to a state of the tree a, planted on the day 0, on a day on which it can be opened.
var ways = [][]string{
	api.TreeNone:    {"plant a", "day 1500", "fell a"},
	api.TreeGrows:   {"plant a", "day 1500"},
	api.TreeTapped:  {"plant a", "day 1500", "open a"},
	api.TreeResting: {"plant a", "day 1500", "open a", "rest a"},
	api.TreeDead:    {"plant a", "day 1500", "die a"},
}

func TestActsOfTrees(t *testing.T) {
	answers := map[string]string{ // by the states before
		"plant": "1----", "open": "-222-", "rest": "--3--", "die": "-444-", "fell": "-0000",
	}
	for act, after := range answers {
		for state, way := range ways {
			f := begin(t, setup(), way...)
			expect(t, f, "tree a", fmt.Sprint(state))
			want := strings.Replace(after[state:state+1], "-", "!114", 1)
			expect(t, f, act+" a", want)
			if len(want) == 1 {
				expect(t, f, "tree a", want)
			}
			expectErrors(t, f, api.ErrUnknown, "open b", "rest b", "die b", "fell b", "tree b")
		}
	}
}

func TestTreesAreOpenedAfter1000Days(t *testing.T) {
	f := begin(t, always(), "day 7", "plant a", "day 1006")
	expectAll(t, f, "open a", "!114", "day 1007", "", "open a", "2", "rest a", "3", "fell a", "0", "plant a", "1", "open a", "!114", "day 2006", "", "open a", "!114", "plant b", "1", "day 2007", "", "open a", "2", "open b", "!114", "die a", "4", "open a", "!114")
}

func TestRights(t *testing.T) {
	s := setup()
	s.Rights = append(s.Rights, right("sap", api.UseResin, 250, 260, 3, 1), right("bee", api.UseHoney, 0, 359, 1, 0))
	for day, is := range map[int]bool{
		1080: false, 1440: false, 1499: false, 1500: true, 1680: true, 1681: false, 1689: false, 1690: true, 1700: true, 1701: false, 1800: false, 1860: false, 2040: false, 2050: false,
		2219: false, 2220: true, 2400: true, 2401: false, 2410: false, 2770: true, 2780: true, 2781: false, 36059: false, 36060: true, 36240: true, 36241: false, 36250: true, 36260: true, 36500: false,
	} {
		empty, open := "!115", "!115"
		if is {
			empty, open = "!114", "2" // it has no pot
		}
		expectAll(t, begin(t, s, "plant a", fmt.Sprint("day ", day)), "empty a 1 1", empty, "open a", open)
	}
	for name, x := range map[string]struct {
		rights []api.Right
		want   string
	}{
		"none":        {nil, "!115"},
		"other uses":  {[]api.Right{right("a", api.UseHoney, 0, 359, 1, 0), right("b", api.UseMush, 0, 359, 1, 0)}, "!115"},
		"the last":    {[]api.Right{right("a", api.UseHoney, 0, 359, 1, 0), right("b", api.UseResin, 0, 0, 1, 0), right("c", api.UseResin, 60, 60, 6, 4)}, "2"},
		"the first":   {[]api.Right{right("c", api.UseResin, 60, 60, 6, 4), right("b", api.UseResin, 0, 0, 1, 0)}, "2"},
		"other years": {[]api.Right{right("c", api.UseResin, 0, 359, 6, 5), right("b", api.UseResin, 0, 59, 1, 0), right("a", api.UseResin, 61, 359, 1, 0)}, "!115"},
	} {
		s := setup()
		s.Rights = x.rights
		expect(t, begin(t, s, "plant a", "day 1500"), "open a", x.want) // the day 60 of the year 4
		if forester.Check(s) != api.OK {
			t.Errorf("%s: no setup", name)
		}
	}
}

// P11.9

func TestNothingOnDaysWithoutARight(t *testing.T) {
	f := begin(t, setup(), tapped(9)...)
	for day := 1501; day < 2500; day += 7 {
		f, is := begin(t, setup(), append(f.Journal(), fmt.Sprint("day ", day))...), day/360%2 == 0 && day%360 >= 60 && day%360 <= 240
		for line, want := range map[string]string{"open a": "2", "empty a 1 0": "", "empty a 10 0": "!116"} {
			if !is {
				want = "!115"
			}
			expect(t, f, line, want)
		}
		expectAll(t, f, "plant b", "1", "rest a", "3", "die b", "4", "fell b", "0", "give a mo", "!114", "hang a 5", "!114")
	}
}

// P11.2, P11.3

func TestPots(t *testing.T) {
	f := begin(t, setup(), "plant a", "tapper mo", "tapper lu")
	expectErrors(t, f, api.ErrUnknown, "give b mo", "give a ka", "give b ka", "give mo a", "hang b 5", "hang mo 5")
	expectAll(t, f, "hang a 5", "!114", "give a lu", "", "give a mo", "", "hang a 5", "!114", "day 1500", "", "open a", "2")
	expectErrors(t, f, api.ErrState, "empty a 0 0", "empty a 9 9")
	expectErrors(t, f, api.ErrRange, "hang a 0", "hang a 1000001", "hang a 999999999")
	expectAll(t, f, "hang a 1000000", "", "owes mo", "200 0", "owes lu", "0 0")
	expectErrors(t, f, api.ErrState, "hang a 5", "hang a 0", "give a mo", "give a lu")
	expectErrors(t, f, api.ErrUnknown, "give a ka", "empty b 1 1", "owes a", "tree mo")
	expectAll(t, f, "rest a", "3", "empty a 999999 1", "", "open a", "2", "die a", "4", "empty a 0 0", "", "empty a 600000 400001", "!116", "give a lu", "!114", "hang a 5", "!114")
	expectTrees(t, f, api.ForestTree{Tag: "a", State: api.TreeDead, Tapper: 0, Pot: 1000000})
	expectAll(t, f, "fell a", "0", "empty a 0 0", "!114", "give a lu", "!114", "hang a 5", "!114")
	expectTrees(t, f, api.ForestTree{Tag: "a", Tapper: api.NoTapper})
	expectAll(t, f, "plant a", "1", "hang a 5", "!114", "give a lu", "", "day 2940", "", "open a", "2", "hang a 5", "", "owes mo", "200 0", "owes lu", "200 0", "totals", "999999 1 0 0 0 0 0 0 400 0 0 0")
	expectTrees(t, f, api.ForestTree{Tag: "a", State: api.TreeTapped, Tapper: 1, Pot: 5})
}

func expectTrees(t *testing.T, f *forester.Forest, want ...api.ForestTree) {
	t.Helper()
	if trees := f.Trees(); !slices.Equal(trees, want) {
		t.Errorf("trees: %v, want %v", trees, want)
	}
}

func TestTreesThatAreGiven(t *testing.T) {
	for state, want := range []string{"!114", "", "", "", ""} { // in each state, to one tapper and then to another one
		f := begin(t, setup(), append(ways[state], "tapper mo", "tapper lu")...)
		expectAll(t, f, "give a mo", want, "give a lu", want, "give a lu", want)
		hang := "!114"
		if state == api.TreeTapped {
			expectTrees(t, f, api.ForestTree{Tag: "a", State: state, Tapper: 1})
			hang = ""
		}
		expect(t, f, "hang a 8", hang)
	}
	f := begin(t, setup(), ways[api.TreeTapped]...)
	expectErrors(t, f, api.ErrState, "hang a 8", "hang a 0") // it is of no tapper
}

func TestAdvances(t *testing.T) {
	for _, advance := range []int{0, 1, 100000} {
		s := always()
		s.Advance = advance
		f := begin(t, s, "tapper mo", "tapper lu")
		do(t, f, numbered(0, 12, "plant t#")...)
		do(t, f, "day 1000")
		do(t, f, numbered(0, 12, "open t#")...)
		do(t, f, numbered(0, 9, "give t# mo")...)
		do(t, f, numbered(9, 12, "give t# lu")...)
		do(t, f, numbered(0, 12, "hang t# 7")...)
		expectAll(t, f, "owes mo", fmt.Sprint(9*advance, 0), "owes lu", fmt.Sprint(3*advance, 0), "totals", fmt.Sprint("0 0 0 0 0 0 0 0 ", 12*advance, " 0 0 0"))
	}
}

func TestAGreatLoan(t *testing.T) {
	s := always()
	s.Advance = 100000
	f := begin(t, s, numbered(0, 32, "plant t#")...)
	do(t, f, "tapper mo", "day 1000")
	do(t, f, numbered(0, 32, "give t# mo", "open t#", "hang t# 7")...)
	expectAll(t, f, "owes mo", "3200000 0", "empty t0 7 0", "", "distil z 0 0 0 : mo", "7", "grade z", "0", "pay z", "0 7 0", "owes mo", "3199993 0")
}

// expectTapper expects a tapper with an empty or a full cask.
func expectTapper(t *testing.T, f *forester.Forest, tapper int, want api.Tapper) {
	t.Helper()
	if x := f.Tappers()[tapper]; fmt.Sprint(x) != fmt.Sprint(want) {
		t.Errorf("the tapper %d: %v, want %v", tapper, x, want)
	}
}

func TestCasks(t *testing.T) {
	f := begin(t, always(), "plant a", "plant b", "plant c", "tapper mo", "tapper lu", "day 1000")
	for tag, name := range map[string]string{"a": "mo", "b": "mo", "c": "lu"} {
		do(t, f, "open "+tag, "give "+tag+" "+name, "hang "+tag+" 50")
	}
	do(t, f, "empty b 20 30", "empty a 1 2", "empty b 3 4")
	expectTapper(t, f, 0, api.Tapper{Name: "mo", Loan: 400, Resin: 24, Water: 36, Trees: []int{1, 0}})
	expectTapper(t, f, 1, api.Tapper{Name: "lu", Loan: 200})
	do(t, f, "empty c 0 50")
	expectTapper(t, f, 1, api.Tapper{Name: "lu", Loan: 200, Water: 50, Trees: []int{2}})
	expectAll(t, f, "totals", "24 86 0 0 0 0 0 0 600 0 0 0", "distil z 0 0 0 : lu", "!114", "distil z 0 0 0 : mo", "24")
	expectTapper(t, f, 0, api.Tapper{Name: "mo", Loan: 400})
	expectTapper(t, f, 1, api.Tapper{Name: "lu", Loan: 200, Water: 50, Trees: []int{2}})
	do(t, f, "empty a 5 0")
	expectTapper(t, f, 0, api.Tapper{Name: "mo", Loan: 400, Resin: 5, Trees: []int{0}})
	expect(t, f, "totals", "5 50 36 0 0 0 24 0 600 0 0 0")
}

func TestNames(t *testing.T) {
	f := begin(t, always(), append(distilled(9), "fill k z 1")...)
	for _, taken := range []string{"mo", "z", "k"} {
		expectErrors(t, f, api.ErrTwice, "plant "+taken)
	}
	for _, taken := range []string{"a", "mo", "z", "k"} {
		expectErrors(t, f, api.ErrTwice, "tapper "+taken, "distil "+taken+" 0 0 0 : mo", "distil "+taken+" 0 0 0 : nobody", "fill "+taken+" z 1", "fill "+taken+" nothing 0")
	}
	expectErrors(t, f, api.ErrState, "plant a")
	expectAll(t, f, "fell a", "0", "tapper a", "!112", "distil a 0 0 0 : mo", "!112", "fill a z 1", "!112", "plant a", "1") // a name stays when a tree is felled
	expectErrors(t, f, api.ErrUnknown, "open mo", "rest z", "die k", "fell mo", "give mo mo", "give a a", "give a z", "hang z 1", "empty k 1 1", "distil y 0 0 0 : a", "distil y 0 0 0 : z", "test mo 0 0 0", "grade a", "fill j a 1", "fill j k 1", "pay k", "owes z", "tree z", "trace z", "trace mo")
	expectAll(t, f, "tapper tap", "", "plant x", "1", "plant all", "1") // rights and grades have names of their own
}

func TestHowManyThereAre(t *testing.T) {
	f := begin(t, always(), numbered(0, 31, "plant t#")...)
	do(t, f, numbered(0, 11, "tapper n#")...)
	expectAll(t, f, "plant t31", "1", "tapper n11", "", "fell t5", "0")
	expectErrors(t, f, api.ErrFull, "plant t32", "tapper n12")
	expectErrors(t, f, api.ErrTwice, "plant n11", "tapper t31", "tapper n11")
	expectErrors(t, f, api.ErrForm, "plant T", "tapper T")
	expectErrors(t, f, api.ErrState, "plant t31")
	expectAll(t, f, "plant t5", "1", "plant t6", "!114")
	do(t, f, "day 1000", "open t0", "give t0 n0", "hang t0 1000")
	do(t, f, numbered(0, 15, "empty t0 100 0", "distil b# 1 1 1 : n0")...)
	expectAll(t, f, "empty t0 100 0", "", "distil b15 0 0 0 : n0", "100", "empty t0 100 0", "")
	expectErrors(t, f, api.ErrFull, "distil b16 0 0 0 : n0", "distil b16 0 0 0 : nobody", "distil b16 999 999 999 : n1 n1")
	expectErrors(t, f, api.ErrTwice, "distil b15 0 0 0 : n0", "distil t0 0 0 0 : n0")
	expectErrors(t, f, api.ErrForm, "distil B 0 0 0 : n0")
	do(t, f, numbered(0, 31, "fill k# b1 1")...)
	expectAll(t, f, "fill k31 b1 1", "65")
	expectErrors(t, f, api.ErrFull, "fill k32 b1 1", "fill k32 nothing 1", "fill k32 b1 0")
	expectErrors(t, f, api.ErrTwice, "fill k31 b1 1", "fill b1 b1 1")
	expectErrors(t, f, api.ErrForm, "fill K b1 1")
	if len(f.Trees()) != 32 || len(f.Tappers()) != 12 || len(f.Batches()) != 16 || len(f.Drums()) != 32 {
		t.Errorf("%s", stateOf(f))
	}
}
