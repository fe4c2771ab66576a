package forester_test

import (
	"fmt"
	"slices"
	"strings"
	"testing"

	"pinaster/api"
	"pinaster/forester"
)

// P11.3

func TestJournal(t *testing.T) {
	f := begin(t, setup())
	var want []string
	for _, line := range joined(distilled(100), []string{"test z 0 250 10", "fill k z 5"}) {
		expectErrors(t, f, api.ErrLine, "", "no line", line+" ")
		expectErrors(t, f, api.ErrUnknown, "tree no", "owes no", "trace no", "open no", "pay no")
		expect(t, f, "plant Z", "!5")
		do(t, f, "totals", line)
		want = append(want, line)
		if journal := f.Journal(); !slices.Equal(journal, want) {
			t.Errorf("journal: %q, want %q", journal, want)
		}
	}
	expectAll(t, f, "tree a", "2", "owes mo", "200 0", "trace k", "z : mo : a")
	if journal := f.Journal(); !slices.Equal(journal, want) {
		t.Errorf("journal: %q, want %q", journal, want)
	}
}

func TestWhatAForestHas(t *testing.T) {
	f := begin(t, setup(), append(distilled(100), "test z 0 250 10", "fill k z 5", "plant b", "give b mo", "empty a 4 3")...)
	want := fmt.Sprint(1500,
		[]api.TreeAct{{Day: 0, Tag: "a", What: 1}, {Day: 1500, Tag: "a", What: 2}, {Day: 1500, Tag: "b", What: 1}},
		[]api.ForestTree{{Tag: "a", State: 2, Tapper: 0, Pot: 1000000}, {Tag: "b", State: 1, Tapper: 0, Pot: 0}},
		[]api.Tapper{{Name: "mo", Loan: 200, Paid: 0, Resin: 4, Water: 3, Trees: []int{0}}},
		[]api.ForestBatch{{Name: "z", Tappers: []int{0}, Resin: []int{100}, Trees: []int{0}, Left: 95, Rosin: 100, Tests: []api.RosinTest{{Part: 0, Read: 250, Wrong: 10}}, Grade: -1}},
		[]api.Drum{{Name: "k", Batch: 0, Grams: 5}},
		api.ForestTotals{Resin: 4, Water: 3, Rosin: 95, Drums: 5, Lent: 200}, 13)
	if state := stateOf(f); state != want {
		t.Errorf("%s, want %s", state, want)
	}
}

// P11.2

func TestFullJournal(t *testing.T) {
	f := begin(t, withOneGrade(), samples()...)
	many := len(f.Journal())
	if many != len(samples())-4 {
		t.Errorf("%d lines of %d", many, len(samples()))
	}
	do(t, f, numbered(0, 255-many, "day 1500")...)
	expectErrors(t, f, api.ErrState, "open a")
	expectAll(t, f, "plant a", "1")
	before := f.Journal()
	if len(before) != 256 {
		t.Errorf("%d lines", len(before))
	}
	for _, line := range samples() {
		if word, _, _ := strings.Cut(line, " "); slices.Index(words, word) < 15 {
			expectErrors(t, f, api.ErrFull, line)
		}
	}
	expectAll(t, f, "owes mo", "0 250", "tree a", "1", "trace k", "z : mo : a", "totals", "0 0 150 200 10 40 400 50 200 250 200 0")
	expectErrors(t, f, api.ErrFull, "day 0", "day 36501", "plant A", "plant zz", "tapper mo", "open no", "distil z 0 0 0 : no", "test z 9 9 9", "fill k z 0", "pay no")
	expectErrors(t, f, api.ErrLine, "day", "day 01", "plant", "pay z z", "")
	expectErrors(t, f, api.ErrUnknown, "owes no", "tree no", "trace no")
	if journal := f.Journal(); !slices.Equal(journal, before) {
		t.Errorf("journal: %q", journal)
	}
	again, at, e := forester.Replay(withOneGrade(), before)
	if e != api.OK || at != 256 || again == nil || stateOf(again) != stateOf(f) {
		t.Errorf("replay of a full journal: %d, %d", at, e)
	}
	expectReplay(t, withOneGrade(), append(before, "day 1500"), 256, api.ErrFull)
	expectReplay(t, withOneGrade(), append(before, "totals"), 256, api.ErrLine)
	expectReplay(t, withOneGrade(), append(before, "day 1500", "totals"), 256, api.ErrFull)
}

func TestAllActsOfAFullJournal(t *testing.T) {
	s := always()
	f := begin(t, s, numbered(0, 128, "plant a", "fell a")...)
	if acts := f.Acts(); len(acts) != 256 || acts[255] != (api.TreeAct{Tag: "a", What: api.TreeFell}) {
		t.Errorf("%d acts", len(acts))
	}
	expectErrors(t, f, api.ErrFull, "plant a")
	expect(t, f, "tree a", "0")
}

// expectReplay expects an error at an index.
func expectReplay(t *testing.T, s api.ForestSetup, journal []string, at int, e api.Errno) {
	t.Helper()
	if f, n, wrong := forester.Replay(s, journal); f != nil || n != at || wrong != e {
		t.Errorf("replay of %q: %v, %d, %d, want %d, %d", journal, f != nil, n, wrong, at, e)
	}
}

// P11.4

func TestReplay(t *testing.T) {
	s := setup()
	s.Day = 3
	journal := append(distilled(100), "fill k z 5")
	for many := range len(journal) + 1 {
		f, at, e := forester.Replay(s, journal[:many])
		if e != api.OK || at != many || f == nil {
			t.Fatalf("replay of %d lines: %d, %d", many, at, e)
		}
		if want := begin(t, s, journal[:many]...); stateOf(f) != stateOf(want) || !slices.Equal(f.Journal(), journal[:many]) {
			t.Errorf("replay of %d lines: %s", many, stateOf(f))
		}
	}
	for at := range len(journal) + 1 { // a line that is put in
		for line, e := range map[string]api.Errno{
			"": 111, "no line": 111, "totals": 111, "tree a": 111, "tree no": 111, "owes mo": 111, "owes no": 111, "trace k": 111, "trace no": 111, "totals ": 111, "tree": 111, "day 01": 111, strings.Repeat("a", 301): 111,
			"day 36501": 7, "plant A": 5, "open no": 113, "distil no 0 0 0 : no": 113, "give no no": 113, "pay no": 113, "fill no no 1": 113, "tapper A": 5,
		} {
			expectReplay(t, s, slices.Insert(slices.Clone(journal), at, line), at, e)
			expectReplay(t, s, slices.Insert(slices.Clone(journal), at, line, "no line", "plant A"), at, e)
		}
	}
	expectReplay(t, s, append(journal, "empty a 1 0", "grade z", "pay z"), len(journal)+1, api.ErrUnproved)
	expectReplay(t, s, append(journal, "pay z"), len(journal), api.ErrState)
	expectReplay(t, s, append(journal, journal...), len(journal), api.ErrState)
	expectReplay(t, s, append(journal, "fill mo z 5"), len(journal), api.ErrTwice)
	expectReplay(t, s, append(journal, "fill j z 96"), len(journal), api.ErrHeavy)
	expectReplay(t, s, append(journal, "day 1800", "plant b", "open a"), len(journal)+2, api.ErrBarred)
	expectReplay(t, s, append(journal, "test z 0 1 0", "test z 0 2 0"), len(journal)+1, api.ErrRosinClash)
	expectReplay(t, s, append(journal, "test z 4 1 0"), len(journal), api.ErrRosinTest)
	s.Day = 1501
	expectReplay(t, s, journal, 2, api.ErrRange)
	s.Day = 36501
	expectReplay(t, s, journal, 0, api.ErrForest)
	expectReplay(t, api.ForestSetup{}, journal, 0, api.ErrForest)
	expectReplay(t, api.ForestSetup{}, nil, 0, api.ErrForest)
}

// P11.6

func TestBooksOfARotation(t *testing.T) {
	f := begin(t, setup())
	for _, line := range samples() {
		f.Do(line)
	}
	again, at, e := forester.Replay(setup(), f.Journal())
	if e != api.OK || at != len(f.Journal()) || stateOf(again) != stateOf(f) {
		t.Errorf("replay: %d, %d", at, e)
	}
	twice, _, _ := forester.Replay(setup(), again.Journal())
	if stateOf(twice) != stateOf(f) {
		t.Errorf("replayed twice: %s", stateOf(twice))
	}
}

// P11.11

func TestQuestionsChangeNothing(t *testing.T) {
	f := begin(t, withOneGrade())
	for _, line := range samples() {
		do(t, f, line)
		before, journal := stateOf(f), f.Journal()
		for _, question := range []string{"totals", "tree a", "tree b", "owes mo", "owes lu", "trace k", "trace z", "tree", "totals 1"} {
			first, e := f.Do(question)
			second, again := f.Do(question)
			if first != second || e != again || stateOf(f) != before || !slices.Equal(f.Journal(), journal) {
				t.Errorf("%q after %q: %q, %d, %q, %d", question, line, first, e, second, again)
			}
		}
	}
}

func TestLinesAfterErrors(t *testing.T) {
	clean, other := begin(t, withOneGrade()), begin(t, withOneGrade())
	wrong := joined(samples(), []string{"plant A", "empty a 900 1", "hang a 0", "test z 0 1000 0", "test z 4 0 0", "distil y 1 1 1 : mo", "fill k z 0", "fill j z 9999", "give a lu", "day 36501", "day 0", "distil y 99 99 99 : mo mo"})
	for _, line := range samples() {
		for _, no := range wrong { // those that can be done are done with a forest that is forgotten
			copied, _, _ := forester.Replay(withOneGrade(), other.Journal())
			if _, e := copied.Do(no); e != api.OK {
				other.Do(no)
			}
		}
		a, ea := clean.Do(line)
		b, eb := other.Do(line)
		if a != b || ea != eb || stateOf(clean) != stateOf(other) {
			t.Errorf("%q: %q, %d, and %q, %d", line, a, ea, b, eb)
		}
	}
}
