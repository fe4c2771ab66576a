package forester_test

import (
	"fmt"
	"strings"
	"testing"

	"pinaster/api"
	"pinaster/forester"
)

// P11.1

// expectSetup expects a setup to be valid, or not.
func expectSetup(t *testing.T, name string, s api.ForestSetup, valid bool) {
	t.Helper()
	want := api.ErrForest
	if valid {
		want = api.OK
	}
	if e := forester.Check(s); e != want {
		t.Errorf("%s: Check: %d, want %d", name, e, want)
	}
	if f, e := forester.New(s); e != want || (f != nil) != valid {
		t.Errorf("%s: New: %v, %d, want %d", name, f != nil, e, want)
	}
	for _, journal := range [][]string{nil, {"day 36500"}, {"no line"}, {"totals"}} {
		f, at, e := forester.Replay(s, journal)
		if !valid && (f != nil || at != 0 || e != want) || valid && len(journal) == 0 && (f == nil || at != 0 || e != api.OK) {
			t.Errorf("%s: Replay of %q: %v, %d, %d", name, journal, f != nil, at, e)
		}
	}
}

func TestCheckLimits(t *testing.T) {
	for _, x := range []struct {
		name        string
		at          func(s *api.ForestSetup) *int
		least, most int
	}{
		{"day", func(s *api.ForestSetup) *int { return &s.Day }, 0, 36500},
		{"advance", func(s *api.ForestSetup) *int { return &s.Advance }, 0, 100000},
		{"rest", func(s *api.ForestSetup) *int { return &s.Rule.Rest }, 0, 60},
		{"from", func(s *api.ForestSetup) *int { return &s.Rights[0].From }, 0, 240},
		{"to", func(s *api.ForestSetup) *int { return &s.Rights[0].To }, 60, 359},
		{"every", func(s *api.ForestSetup) *int { return &s.Rights[0].Every }, 1, 6},
		{"offset", func(s *api.ForestSetup) *int { return &s.Rights[0].Offset }, 0, 1},
		{"plots", func(s *api.ForestSetup) *int { return &s.Rights[0].Plots }, 1, 4095},
		{"glass", func(s *api.ForestSetup) *int { return &s.Grades[0].Glass }, 0, 1000},
		{"price", func(s *api.ForestSetup) *int { return &s.Grades[1].Price }, 0, 90},
	} {
		for n, valid := range map[int]bool{x.least: true, x.most: true, x.least - 1: false, x.most + 1: false, odd[2]: false, odd[3]: false} {
			s := setup()
			*x.at(&s) = n
			expectSetup(t, fmt.Sprint(x.name, " ", n), s, valid)
		}
	}
}

func TestCheckParts(t *testing.T) {
	cow := right("cow", api.UsePasture, 244, 300, 3, 1)
	for name, x := range map[string]struct {
		change func(s *api.ForestSetup)
		valid  bool
	}{
		"as it is":            {func(s *api.ForestSetup) {}, true},
		"no rights":           {func(s *api.ForestSetup) { s.Rights = nil }, true},
		"bars of one side":    {func(s *api.ForestSetup) { s.Rule.Bars[3] = 4 }, false},
		"wrong bars":          {func(s *api.ForestSetup) { s.Rule.Bars[0] = 16 }, false},
		"a wrong name":        {func(s *api.ForestSetup) { s.Rights[0].Name = "Tap" }, false},
		"a wrong use":         {func(s *api.ForestSetup) { s.Rights[0].Use = 4 }, false},
		"eight rights":        {func(s *api.ForestSetup) { s.Rights = rights(8) }, false},
		"seven rights":        {func(s *api.ForestSetup) { s.Rights = rights(7) }, true},
		"one name twice":      {func(s *api.ForestSetup) { s.Rights = append(rights(2), rights(1)...) }, false},
		"rights that cross":   {func(s *api.ForestSetup) { s.Rights = append(s.Rights, cow) }, false},
		"the other way round": {func(s *api.ForestSetup) { s.Rights = []api.Right{cow, s.Rights[0]} }, false},
		"no rest":             {func(s *api.ForestSetup) { s.Rights, s.Rule.Rest = append(s.Rights, cow), 3 }, true},
		"just rest":           {func(s *api.ForestSetup) { s.Rights, s.Rule.Rest = append(s.Rights, cow), 4 }, false},
		"other plots":         {func(s *api.ForestSetup) { cow := cow; cow.Plots = 4; s.Rights = append(s.Rights, cow) }, true},
		"uses that bear":      {func(s *api.ForestSetup) { s.Rights, s.Rule.Bars = append(s.Rights, cow), [4]int{} }, true},
		"no grades":           {func(s *api.ForestSetup) { s.Grades = nil }, false},
		"grades of one name":  {func(s *api.ForestSetup) { s.Grades[1].Name = "x" }, false},
		"a dearer grade":      {func(s *api.ForestSetup) { s.Grades[1].Price = 91 }, false},
		"nothing":             {func(s *api.ForestSetup) { *s = api.ForestSetup{} }, false},
	} {
		s := setup()
		x.change(&s)
		expectSetup(t, name, s, x.valid)
	}
}

// rights are so many of resin, which bear each other.
func rights(many int) []api.Right {
	var l []api.Right
	for i := range many {
		l = append(l, right(fmt.Sprint("r", i), api.UseResin, 40*i, 40*i+5, 1, 0))
	}
	return l
}

// isNothing reports whether a forest says nothing of itself.
func isNothing(f *forester.Forest) bool {
	return len(f.Journal())+len(f.Acts())+len(f.Trees())+len(f.Tappers())+len(f.Batches())+len(f.Drums()) == 0 &&
		f.Day() == 0 && f.Totals() == api.ForestTotals{}
}

func TestForestAtTheBeginning(t *testing.T) {
	for _, day := range []int{0, 77, 36500} {
		s := setup()
		s.Day = day
		f := begin(t, s)
		if f.Day() != day {
			t.Errorf("the day %d, not %d", f.Day(), day)
		}
		if day == 0 && !isNothing(f) {
			t.Errorf("a forest at the beginning: %s", stateOf(f))
		}
		expectAll(t, f, "totals", "0 0 0 0 0 0 0 0 0 0 0 0", fmt.Sprint("day ", day), "", "plant a", "1")
		expectErrors(t, f, api.ErrRange, fmt.Sprint("day ", max(36501, day+1)))
	}
}

// P11.1, R3

func TestForestThatNewDidNotReturn(t *testing.T) {
	s := setup()
	s.Day = 5
	made := begin(t, s, distilled(7)...)
	do(t, made, "fill k z 3")
	copied := *made
	for name, f := range map[string]*forester.Forest{"nil": nil, "zero": {}, "a copy": &copied} {
		for _, line := range []string{"", "no line", "day 1", "day 36500", "plant a", "totals", "tree a", strings.Repeat("x", 301)} {
			if answer, e := f.Do(line); answer != "" || e != api.ErrNil {
				t.Errorf("%s: %q: %q, %d", name, line, answer, e)
			}
		}
		if !isNothing(f) {
			t.Errorf("%s: %s", name, stateOf(f))
		}
	}
	expectAll(t, made, "tree a", "2", "trace k", "z : mo : a")
}
