package forester_test

import (
	"fmt"
	"slices"
	"strconv"
	"strings"
	"testing"

	"pinaster/api"
	"pinaster/forester"
)

// setup throws a setup.
func (d *dice) setup() api.ForestSetup {
	s := setup()
	if d.upTo(2) > 0 {
		s.Rights = always().Rights
	}
	if d.upTo(2) == 0 {
		s.Rights = append(s.Rights, right("bee", api.UseHoney, 0, 359, 1, 0))
	}
	s.Grades[0].Price = d.from(60, 10000)
	s.Grades[1].Price = d.upTo(60)
	s.Advance = []int{0, 1, 200, d.upTo(2000), 100000}[d.upTo(4)]
	s.Day = d.upTo(2000)
	return s
}

// name throws one of some names, or seldom any other one.
func (d *dice) name(names []string, p *paper) string {
	if len(names) == 0 || d.upTo(30) == 0 {
		return d.of(slices.Concat(p.tags, p.people, p.names, p.drums, []string{"no", "A", "x:"})...)
	}
	return d.of(names...)
}

// fit throws mostly one of the names of which something is so.
func (d *dice) fit(names []string, p *paper, is func(name string) bool) string {
	fit := slices.DeleteFunc(slices.Clone(names), func(name string) bool { return !is(name) })
	if len(fit) == 0 || d.upTo(6) == 0 {
		return d.name(names, p)
	}
	return d.name(fit, p)
}

// fresh throws mostly a new name.
func (d *dice) fresh(letter string, p *paper) string {
	if d.upTo(12) == 0 {
		return d.name(nil, p)
	}
	return letter + strconv.Itoa(d.upTo(9999))
}

// about throws a number that may be a little greater than most.
func (d *dice) about(most int) int { return max(0, d.upTo(most+most/20+1)) }

// phases are the words of lines, one list for each 20 lines of the journal.
var phases = [][]string{
	{"plant", "plant", "plant", "tapper", "give"},
	{"open", "open", "give", "give", "hang", "tree", "plant"},
	{"hang", "open", "empty", "empty", "give", "owes", "totals"},
	{"hang", "empty", "empty", "empty", "distil", "test", "test", "fill", "open"},
	{"open", "hang", "give", "empty", "empty", "distil", "test", "test", "test", "grade", "grade", "fill", "fill", "pay", "pay", "rest", "owes", "trace", "totals"},
}

// line throws a line for a forest that is as on paper.
func (d *dice) line(p *paper) string {
	if len(p.journal) == 20 {
		return fmt.Sprint("day ", p.day+1000)
	}
	list := phases[min(len(p.journal)/20, len(phases)-1)]
	if d.upTo(3) == 0 {
		list = words
	}
	word := d.of(list...)
	said := append([]any{word}, d.behind(word, p)...)
	return strings.TrimSuffix(fmt.Sprintln(said...), "\n")
}

// behind throws what stands behind the first token of a line.
func (d *dice) behind(word string, p *paper) []any {
	if said := d.aboutTrees(word, p); said != nil {
		return said
	}
	isOpen := func(name string) bool { return p.batch[name].grade < 0 }
	switch word {
	case "day":
		return []any{p.day + []int{0, 1, 3, 30, 400, -1}[d.upTo(5)]}
	case "tapper":
		return []any{d.fresh("n", p)}
	case "distil":
		return d.distil(p)
	case "test":
		part := d.upTo(3)
		read := max(0, []int{295, 750, 160, 4}[part]+d.from(-9, 9)*d.upTo(1))
		return []any{d.fit(p.names, p, isOpen), part + d.upTo(40)/40, read, d.upTo(12) * (1 + d.upTo(40)/40*100)}
	case "grade":
		return []any{d.fit(p.names, p, isOpen)}
	case "pay":
		return []any{d.fit(p.names, p, func(name string) bool { return p.batch[name].grade >= 0 && !p.batch[name].paid })}
	case "fill":
		name, left := d.fit(p.names, p, func(name string) bool { return p.batch[name].left > 0 }), 0
		if b := p.batch[name]; b != nil {
			left = b.left / d.from(1, 4)
		}
		return []any{d.fresh("k", p), name, d.about(left)}
	case "owes":
		return []any{d.name(p.people, p)}
	case "trace":
		return []any{d.name(p.drums, p)}
	}
	return nil
}

// aboutTrees throws what stands in a line that begins with a tree.
func (d *dice) aboutTrees(word string, p *paper) []any {
	tag := func(is func(t *paperTree) bool) string {
		return d.fit(p.tags, p, func(name string) bool { return is(p.tree[name]) })
	}
	switch word {
	case "plant":
		return []any{d.of(d.fresh("t", p), d.fresh("t", p), tag(func(t *paperTree) bool { return t.state == 0 }))}
	case "open":
		return []any{tag(func(t *paperTree) bool { return t.state == 1 || t.state == 3 })}
	case "rest":
		return []any{tag(func(t *paperTree) bool { return t.state == 2 })}
	case "die", "fell", "tree":
		return []any{d.name(p.tags, p)}
	case "give":
		return []any{tag(func(t *paperTree) bool { return t.tapper == "" }), d.name(p.people, p)}
	case "hang":
		name := tag(func(t *paperTree) bool { return t.state == 2 && t.tapper != "" && t.pot == 0 })
		return []any{name, []int{0, 500, 500, 500, 700, 1000000, 1000001}[d.upTo(6)]}
	case "empty":
		name, pot := tag(func(t *paperTree) bool { return t.pot > 0 }), 0
		if tree := p.tree[name]; tree != nil {
			pot = tree.pot
		}
		resin := d.about(pot)
		return []any{name, resin, d.about(max(0, pot-resin))}
	}
	return nil
}

// distil throws what a line of a new batch says.
func (d *dice) distil(p *paper) []any {
	people, resin := []any{}, 0
	for range d.from(1, 3) {
		name := d.fit(p.people, p, func(name string) bool {
			return gramsOf(p.tapper[name].grams) > 0 && !slices.Contains(people, any(name))
		})
		people = append(people, name)
		if t := p.tapper[name]; t != nil {
			resin += gramsOf(t.grams)
		}
	}
	third := resin / []int{2, 3, 10, 100}[d.upTo(3)]
	return append([]any{d.fresh("b", p), d.about(third), d.about(third), d.about(third), ":"}, people...)
}

// spoilLine makes a line that may be none.
func (d *dice) spoilLine(line string) string {
	at := d.upTo(len(line) - 1)
	return line[:at] + d.of("", " ", ":", "0", "x", "  ", " : ") + line[at+d.upTo(1):]
}

// run does thrown lines with a forest and on paper, and calls what checks the forest after each of them.
func (d *dice) run(t *testing.T, many int, check func(f *forester.Forest, p *paper, line, answer string, e api.Errno)) {
	t.Helper()
	s := d.setup()
	f, p := begin(t, s), newPaper(s)
	for range many {
		line := d.line(p)
		if d.upTo(30) == 0 {
			line = d.spoilLine(line)
		}
		answer, e := f.Do(line)
		check(f, p, line, answer, e)
		if t.Failed() {
			t.Fatalf("%q of %q", line, f.Journal())
		}
	}
}

// P11.2, P11.3, P11.11

func TestThrownLines(t *testing.T) {
	d := &dice{1}
	seen := map[string]int{}
	for range 50 {
		before := ""
		d.run(t, 700, func(f *forester.Forest, p *paper, line, answer string, e api.Errno) {
			want, wrong := p.do(line)
			if answer != want || e != wrong {
				t.Fatalf("%q: %q, %d, want %q, %d", line, answer, e, want, wrong)
			}
			state := stateOf(f)
			if state != p.state() {
				t.Fatalf("%q leads to %s, not to %s", line, state, p.state())
			}
			word, _, _ := strings.Cut(line, " ")
			if (e != api.OK || slices.Index(words, word) >= 15) && before != "" && state != before {
				t.Fatalf("%q changes %s to %s", line, before, state)
			}
			before = state
			seen[fmt.Sprint(word, " ", int(e))]++
			if journal := f.Journal(); !slices.Equal(journal, p.journal) {
				t.Fatalf("journal: %q, not %q", journal, p.journal)
			}
		})
	}
	for word, errors := range map[string][]api.Errno{
		"day": {0, 6, 7, 111}, "plant": {0, 5, 6, 112, 114}, "open": {0, 6, 113, 114, 115}, "rest": {0, 6, 113, 114}, "die": {0, 6, 113, 114}, "fell": {0, 6, 113, 114},
		"tapper": {0, 5, 6, 112}, "give": {0, 6, 113, 114}, "hang": {0, 6, 7, 113, 114}, "empty": {0, 6, 113, 114, 115, 116}, "distil": {0, 5, 6, 111, 112, 113, 114, 116},
		"test": {0, 6, 71, 73, 113, 114}, "grade": {0, 6, 113, 114, 117}, "fill": {0, 5, 6, 112, 113, 116}, "pay": {0, 6, 113, 114}, "owes": {0, 113}, "tree": {0, 113}, "trace": {0, 113}, "totals": {0},
	} {
		for _, e := range errors {
			if n := seen[fmt.Sprint(word, " ", int(e))]; n < 5 {
				t.Errorf("%s with %d was thrown %d times", word, e, n)
			}
		}
	}
}

// P11.7, P11.8, P11.9, P11.10

// ledger adds up what answers say of mass and money.
type ledger struct {
	resin, water, lent, worth int
	came                      map[string]map[string]bool // from which trees the resin in casks and batches came
	graded, paid              map[string]bool
}

// add adds up a line that was done.
func (l *ledger) add(t *testing.T, s api.ForestSetup, f *forester.Forest, line, answer string) {
	said := strings.Fields(line)
	switch said[0] {
	case "hang":
		l.lent += s.Advance
	case "empty":
		l.resin += number(said[2])
		l.water += number(said[3])
		tree := f.Trees()[indices(said[1:2], tagsOf(f))[0]]
		l.join(f.Tappers()[tree.Tapper].Name, said[1])
		l.needRight(t, s, f, line)
	case "open":
		l.needRight(t, s, f, line)
	case "distil":
		for _, n := range said[6:] {
			for tag := range l.came[n] {
				l.join("batch "+said[1], tag)
			}
			delete(l.came, n)
		}
	case "grade", "pay":
		once := map[string]map[string]bool{"grade": l.graded, "pay": l.paid}[said[0]]
		if once[said[1]] {
			t.Errorf("%q was done before", line)
		}
		once[said[1]] = true
		var paid, kept, fund int
		if n, _ := fmt.Sscan(answer, &paid, &kept, &fund); n == 3 {
			l.worth += paid + kept + fund
		}
	case "trace":
		b := f.Batches()[f.Drums()[slices.IndexFunc(f.Drums(), func(x api.Drum) bool { return x.Name == said[1] })].Batch]
		_, tags, _ := strings.Cut(answer[strings.Index(answer, ":")+1:], " : ")
		got := strings.Fields(tags)
		slices.Sort(got)
		if want := l.trees("batch " + b.Name); !slices.Equal(got, want) {
			t.Errorf("%q: %q, but the resin came from %q", line, answer, want)
		}
	}
}

func (l *ledger) join(to, tag string) {
	if l.came[to] == nil {
		l.came[to] = map[string]bool{}
	}
	l.came[to][tag] = true
}

func (l *ledger) trees(of string) []string {
	var tags []string
	for tag := range l.came[of] {
		tags = append(tags, tag)
	}
	slices.Sort(tags)
	return tags
}

func (l *ledger) needRight(t *testing.T, s api.ForestSetup, f *forester.Forest, line string) {
	if !(&paper{ForestSetup: s, day: f.Day()}).isRight() {
		t.Errorf("%q on the day %d", line, f.Day())
	}
}

func tagsOf(f *forester.Forest) []string {
	var tags []string
	for _, x := range f.Trees() {
		tags = append(tags, x.Tag)
	}
	return tags
}

func TestMassAndMoneyAreConserved(t *testing.T) {
	d := &dice{2}
	drums, worth := 0, 0
	for range 60 {
		var s *api.ForestSetup
		l := ledger{came: map[string]map[string]bool{}, graded: map[string]bool{}, paid: map[string]bool{}}
		d.run(t, 500, func(f *forester.Forest, p *paper, line, answer string, e api.Errno) {
			p.do(line)
			s = &p.ForestSetup
			if e != api.OK {
				return
			}
			l.add(t, *s, f, line, answer)
			x := f.Totals()
			if x.Resin+x.Spirit+x.Fume+x.Dirt+x.Rosin+x.Drums != l.resin || x.Water+x.Drain != l.water {
				t.Errorf("%q: %v, of %d and %d", line, x, l.resin, l.water)
			}
			loans := 0
			for _, tapper := range f.Tappers() {
				loans += tapper.Loan
			}
			if x.Lent != l.lent || x.Lent != loans+x.Kept || x.Paid+x.Kept+x.Fund != l.worth {
				t.Errorf("%q: %v, lent %d, owed %d, worth %d", line, x, l.lent, loans, l.worth)
			}
			isProved(t, f, *s)
		})
		drums, worth = drums+len(l.paid), worth+l.worth
	}
	if drums < 20 || worth < 1000 {
		t.Errorf("%d batches that were paid, worth %d", drums, worth)
	}
}

// isProved expects that each batch that was paid was graded, and that qualities of which the tests are true have this grade.
func isProved(t *testing.T, f *forester.Forest, s api.ForestSetup) {
	for _, b := range f.Batches() {
		if b.Paid && b.Grade == api.NoGrade {
			t.Errorf("%s was paid without a grade", b.Name)
		}
		if b.Grade == api.NoGrade {
			continue
		}
		low, high := [4]int{}, [4]int{1000, 2000, 300, 1000}
		for _, x := range b.Tests {
			low[x.Part], high[x.Part] = max(low[x.Part], x.Read-x.Wrong), min(high[x.Part], x.Read+x.Wrong)
		}
		for corner := range 16 {
			q := low
			for part := range q {
				if corner>>part&1 == 1 {
					q[part] = high[part]
				}
			}
			if g := gradeOf(s.Grades, q); g != b.Grade {
				t.Errorf("%s has the grade %d, but %v has %d", b.Name, b.Grade, q, g)
			}
		}
	}
}

func gradeOf(l []api.RosinGrade, q [4]int) int {
	for i, g := range l {
		if q[0] <= g.Glass && q[1] >= g.Soft.Low && q[1] <= g.Soft.High && q[2] >= g.Acid && q[3] <= g.Dirt {
			return i
		}
	}
	return len(l)
}

// P11.6

func TestReplayOfThrownJournals(t *testing.T) {
	d := &dice{3}
	for range 40 {
		s := d.setup()
		f, p := begin(t, s), newPaper(s)
		for range d.upTo(400) {
			line := d.line(p)
			f.Do(line)
			p.do(line)
		}
		journal := f.Journal()
		again, at, e := forester.Replay(s, journal)
		if e != api.OK || at != len(journal) || stateOf(again) != stateOf(f) || !slices.Equal(again.Journal(), journal) {
			t.Fatalf("replay of %q: %d, %d", journal, at, e)
		}
		for range 50 { // and goes on as the other one
			line := d.line(p)
			a, ea := f.Do(line)
			b, eb := again.Do(line)
			p.do(line)
			if a != b || ea != eb || stateOf(f) != stateOf(again) {
				t.Fatalf("%q: %q, %d, and %q, %d", line, a, ea, b, eb)
			}
		}
	}
}
