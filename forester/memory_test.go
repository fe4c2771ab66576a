package forester_test

import (
	"fmt"
	"math"
	"slices"
	"strings"
	"testing"
	"unsafe"

	"pinaster/api"
	"pinaster/forester"
)

// roomy returns a list with room behind it, and all of that room.
func roomy[T any](list []T, canary T) (short, whole []T) {
	whole = append(slices.Clone(list), canary, canary, canary)
	return whole[:len(list)], whole
}

// isUnchanged reports whether a list with room behind it is as roomy made it.
func isUnchanged[T comparable](whole, list []T, canary T) bool {
	_, want := roomy(list, canary)
	return slices.Equal(whole, want)
}

// spoil overwrites all of a list, also the room behind it.
func spoil[T any](list []T, canary T) {
	for i := range list[:cap(list)] {
		list[:cap(list)][i] = canary
	}
}

// P11.5

func TestArgumentsAreOnlyRead(t *testing.T) {
	d := &dice{11}
	noRight, noGrade := api.Right{Name: "?", Use: -7}, api.RosinGrade{Name: "?", Glass: -7}
	for range 20 {
		s := d.setup()
		roomyS := s
		var allRights []api.Right
		var allGrades []api.RosinGrade
		roomyS.Rights, allRights = roomy(s.Rights, noRight)
		roomyS.Grades, allGrades = roomy(s.Grades, noGrade)
		lines := append(tapped(500), "totals")
		journal, all := roomy(lines, "?")
		if e := forester.Check(roomyS); e != api.OK {
			t.Errorf("Check: %d", e)
		}
		f, e := forester.New(roomyS)
		if e != api.OK {
			t.Errorf("New: %d", e)
		}
		for _, line := range journal {
			f.Do(line)
		}
		forester.Replay(roomyS, journal)
		if !isUnchanged(allRights, s.Rights, noRight) || !isUnchanged(allGrades, s.Grades, noGrade) || !isUnchanged(all, lines, "?") {
			t.Errorf("the setup: %v, %v, the journal: %q", allRights, allGrades, all)
		}
	}
}

func TestArgumentsAreNotRetained(t *testing.T) {
	lines := joined(distilled(100), []string{"test z 0 300 0", "test z 1 750 0", "test z 2 160 0", "test z 3 5 0", "grade z", "pay z", "fill k z 5"})
	for _, replayed := range []bool{false, true} {
		s, journal := setup(), slices.Clone(lines)
		f := begin(t, s)
		if replayed {
			f, _, _ = forester.Replay(s, journal)
		}
		spoil(s.Rights, api.Right{Name: "?", Use: -7})
		spoil(s.Grades, api.RosinGrade{Name: "?", Glass: -7})
		spoil(journal, "?")
		s.Advance = -7
		if !replayed {
			do(t, f, lines...)
		}
		if want := begin(t, setup(), lines...); stateOf(f) != stateOf(want) || !slices.Equal(f.Journal(), lines) {
			t.Errorf("%s, want %s", stateOf(f), stateOf(want))
		}
	}
}

// lent returns a text whose memory can be overwritten.
func lent(text string) (string, []byte) {
	memory := []byte(text)
	return unsafe.String(unsafe.SliceData(memory), len(memory)), memory
}

func TestTextsAreNotRetained(t *testing.T) {
	clean, lines := begin(t, setup()), append(distilled(100), "fill k z 5", "test z 0 900 0", "grade z")
	s := setup()
	var memories [3][]byte
	s.Rights[0].Name, memories[0] = lent("tap")
	s.Grades[0].Name, memories[1] = lent("x")
	s.Grades[1].Name, memories[2] = lent("n")
	f := begin(t, s)
	for _, memory := range memories {
		spoil(memory, '?')
	}
	for _, line := range lines {
		text, memory := lent(line)
		expect(t, f, text, answerOf(t, clean, line))
		spoil(memory, '?')
		if stateOf(f) != stateOf(clean) || !slices.Equal(f.Journal(), clean.Journal()) {
			t.Fatalf("%q: %s, want %s", line, stateOf(f), stateOf(clean))
		}
	}
}

// spoilAll overwrites all results of a forest.
func spoilAll(f *forester.Forest) {
	spoil(f.Journal(), "?")
	spoil(f.Acts(), api.TreeAct{Tag: "?"})
	spoil(f.Trees(), api.ForestTree{Tag: "?"})
	spoil(f.Drums(), api.Drum{Name: "?"})
	tappers, batches := f.Tappers(), f.Batches()
	for _, x := range tappers {
		spoil(x.Trees, -9)
	}
	for _, x := range batches {
		spoil(x.Tappers, -9)
		spoil(x.Resin, -9)
		spoil(x.Trees, -9)
		spoil(x.Tests, api.RosinTest{Part: -9})
	}
	spoil(tappers, api.Tapper{Name: "?"})
	spoil(batches, api.ForestBatch{Name: "?"})
}

func TestResultsAreNew(t *testing.T) {
	f, clean := begin(t, withOneGrade()), begin(t, withOneGrade())
	for _, line := range append(samples(), "plant a", "tapper lu", "give a lu") { // what is done with results shows in no later one
		expect(t, f, line, answerOf(t, clean, line))
		for range 2 {
			spoilAll(f)
			if stateOf(f) != stateOf(clean) || !slices.Equal(f.Journal(), clean.Journal()) {
				t.Fatalf("%q: %s, want %s", line, stateOf(f), stateOf(clean))
			}
		}
	}
}

func answerOf(t *testing.T, f *forester.Forest, line string) string {
	t.Helper()
	answer, e := f.Do(line)
	if e != api.OK {
		t.Fatalf("%q: %d", line, e)
	}
	return answer
}

func TestResultsStayAsTheyAre(t *testing.T) {
	d := &dice{12}
	for range 5 {
		var results []func() string
		var were []string
		d.run(t, 200, func(f *forester.Forest, p *paper, line, answer string, e api.Errno) {
			p.do(line)
			journal, acts, trees, tappers, batches, drums := f.Journal(), f.Acts(), f.Trees(), f.Tappers(), f.Batches(), f.Drums()
			say := func() string { return fmt.Sprint(journal, acts, trees, tappers, batches, drums) }
			results, were = append(results, say), append(were, say())
		})
		for i, say := range results {
			if say() != were[i] {
				t.Fatalf("%s, and later %s", were[i], say())
			}
		}
	}
}

// P2

func TestForestsAreApart(t *testing.T) {
	d := &dice{13}
	a, b := begin(t, setup()), begin(t, always())
	p, q := newPaper(setup()), newPaper(always())
	for range 400 {
		for _, x := range []struct {
			f *forester.Forest
			p *paper
		}{{a, p}, {b, q}} {
			line := d.line(x.p)
			answer, e := x.f.Do(line)
			if want, wrong := x.p.do(line); answer != want || e != wrong || stateOf(x.f) != x.p.state() {
				t.Fatalf("%q: %q, %d, want %q, %d", line, answer, e, want, wrong)
			}
		}
		if forester.Check(setup()) != api.OK || forester.Check(api.ForestSetup{}) != api.ErrForest {
			t.Fatal("Check")
		}
	}
}

// R3

func TestNilAndEmpty(t *testing.T) {
	for _, empty := range []bool{false, true} {
		s := setup()
		s.Rights = nil
		var journal []string
		if empty {
			s.Rights, journal = []api.Right{}, []string{}
		}
		f, at, e := forester.Replay(s, journal)
		if f == nil || at != 0 || e != api.OK || !isNothing(f) {
			t.Errorf("replay of nothing: %d, %d", at, e)
		}
		expectAll(t, f, "plant a", "1", "day 1500", "", "open a", "!115")
		s.Grades = nil
		if empty {
			s.Grades = []api.RosinGrade{}
		}
		expectSetup(t, "no grades", s, false)
	}
}

// P1

func TestGreatestForest(t *testing.T) {
	s := always()
	s.Rule, s.Rights = api.RightsRule{Bars: [4]int{14, 13, 11, 7}, Rest: 60}, nil
	for i := range 7 {
		s.Rights = append(s.Rights, right(fmt.Sprint("r", i), i%4, 0, 359, 6, 5))
		s.Rights[i].Plots = 1 << i
	}
	s.Grades = nil
	for i := range 8 {
		s.Grades = append(s.Grades, api.RosinGrade{Name: fmt.Sprint("g", i), Glass: 100 + 100*i, Soft: api.Span{Low: 10 * i, High: 1000 + 110*i}, Acid: 200 - 20*i, Dirt: 900 - 90*i, Price: 10000})
	}
	f := begin(t, s, numbered(0, 32, "plant t#")...)
	do(t, f, numbered(0, 12, "tapper n#", "give t# n#")...)
	expect(t, f, "open t0", "!115")
	do(t, f, "day 1800")
	do(t, f, numbered(0, 12, "open t#", "hang t# 1000000", "empty t# 1000000 0", "empty t# 500000 500000", "empty t# 1000000 0")...)
	do(t, f, "distil z 0 0 0 : "+strings.Join(numbered(0, 12, "n#"), " "))
	do(t, f, slices.Repeat([]string{"test z 0 0 100"}, 12)...)
	expect(t, f, "test z 0 0 100", "!71")
	do(t, f, numbered(0, 32, "fill k# z 100000")...)
	do(t, f, slices.Repeat([]string{"rest t0", "open t0"}, (256-len(f.Journal()))/2)...)
	expect(t, f, "rest t0", "!6")
	again, at, e := forester.Replay(s, f.Journal())
	if e != api.OK || at != 256 || stateOf(again) != stateOf(f) {
		t.Errorf("replay: %d, %d", at, e)
	}
	expect(t, again, "totals", "0 0 6000000 0 0 0 26800000 3200000 2400 0 0 0")
}

func TestAnySetup(t *testing.T) {
	d := &dice{14}
	n := func() int { return append(odd, 0, 1, 2, 3, 100, 360, 36500)[d.upTo(len(odd)+6)] }
	for range 3000 {
		s := setup()
		s.Day, s.Advance, s.Rule.Rest = n(), n(), n()
		s.Rule.Bars[d.upTo(3)] = n()
		s.Rights = append(s.Rights, api.Right{Name: "r", Use: n(), Plots: n(), From: n(), To: n(), Every: n(), Offset: n()})
		s.Grades[d.upTo(1)] = api.RosinGrade{Name: "g", Glass: n(), Soft: api.Span{Low: n(), High: n()}, Acid: n(), Dirt: n(), Price: n()}
		e := forester.Check(s)
		f, again := forester.New(s)
		if e != again || (f == nil) != (e != api.OK) || e != api.OK && e != api.ErrForest {
			t.Fatalf("%+v: %d, %d", s, e, again)
		}
	}
	s := setup()
	s.Day = math.MinInt
	expectSetup(t, "the day", s, false)
}

func TestAnyLine(t *testing.T) {
	d := &dice{15}
	f := begin(t, withOneGrade(), samples()[:12]...)
	for range 20000 {
		line := ""
		for range d.upTo(8) {
			line += d.of("empty", "distil", "fill", "a", "mo", "z", "k", "0", "1", "999999999", ":", " ", " ", " ", " ", "\n", "\xff", "é", "totals", "grade", "tree", "open", "pay", "-", "test z 0 1 1")
		}
		before := stateOf(f)
		answer, e := f.Do(line)
		if e != api.OK && (answer != "" || stateOf(f) != before) {
			t.Fatalf("%q: %q, %d", line, answer, e)
		}
		if e == api.ErrFull {
			f = begin(t, withOneGrade(), samples()[:12]...)
		}
	}
}
