package forester_test

import (
	"fmt"
	"regexp"
	"slices"
	"strconv"
	"strings"

	"pinaster/api"
	"pinaster/rosin"
)

// paper keeps the books of a forest on paper, gram by gram of each tree, in its own way.
type paper struct {
	api.ForestSetup
	day     int
	acts    []api.TreeAct
	tags    []string // the names of all that there is, in their order
	people  []string
	names   []string
	drums   []string
	tree    map[string]*paperTree
	tapper  map[string]*paperTapper
	batch   map[string]*paperBatch
	drum    map[string]*paperDrum
	journal []string

	drained, spirit, fume, dirt, lent, kept, fund int
}

type paperTree struct {
	state, planted, pot int
	tapper              string
}

type paperTapper struct {
	loan, paid, water int
	grams             map[string]int // resin in the cask, by the tree from which it came
	tags              []string
}

type paperBatch struct {
	people, tags []string
	resin        []int
	grams        map[string]int
	rosin, left  int
	tests        []api.RosinTest
	grade        int
	paid         bool
}

type paperDrum struct {
	batch string
	grams int
}

func newPaper(s api.ForestSetup) *paper {
	return &paper{ForestSetup: s, day: s.Day, tree: map[string]*paperTree{}, tapper: map[string]*paperTapper{}, batch: map[string]*paperBatch{}, drum: map[string]*paperDrum{}}
}

// forms are what lines are, by regular expressions.
var forms = func() map[string]*regexp.Regexp {
	all := map[string]*regexp.Regexp{}
	for word, form := range map[string]string{
		"day": "#", "plant": "@", "open": "@", "rest": "@", "die": "@", "fell": "@", "tapper": "@", "give": "@ @", "hang": "@ #", "empty": "@ # #",
		"distil": "@ # # # : (@(?: @)*)", "test": "@ # # #", "grade": "@", "fill": "@ @ #", "pay": "@", "owes": "@", "tree": "@", "trace": "@", "totals": "",
	} {
		form = strings.ReplaceAll(form, "(@(?: @)*)", `((?:(?:[^: ][^ ]*|:[^ ]+)(?: |\z))+)`)
		form = strings.ReplaceAll(form, "@", `([^: ][^ ]*|:[^ ]+)`)
		form = strings.ReplaceAll(form, "#", `(0|[1-9][0-9]{0,8})`)
		all[word] = regexp.MustCompile(strings.TrimSuffix(`\A`+word+" "+form, " ") + `\z`)
	}
	return all
}()

// words are the first tokens of lines: those of questions are the last four.
var words = []string{"day", "plant", "open", "rest", "die", "fell", "tapper", "give", "hang", "empty", "distil", "test", "grade", "fill", "pay", "owes", "tree", "trace", "totals"}

// do does a line.
func (p *paper) do(line string) (string, api.Errno) {
	if len(line) > 300 || !isLine(line) {
		return "", api.ErrLine
	}
	word, _, _ := strings.Cut(line, " ")
	said := forms[word].FindStringSubmatch(line)[1:]
	changes := slices.Index(words, word) < 15
	if changes && len(p.journal) == 256 {
		return "", api.ErrFull
	}
	answer, e := p.act(word, said)
	if e != api.OK {
		return "", e
	}
	if changes {
		p.journal = append(p.journal, line)
	}
	return answer, api.OK
}

func (p *paper) act(word string, said []string) (string, api.Errno) {
	switch word {
	case "day":
		return p.doDay(number(said[0]))
	case "plant", "open", "rest", "die", "fell":
		return p.doAct(word, said[0])
	case "tapper":
		return p.doTapper(said[0])
	case "give":
		return p.doGive(said[0], said[1])
	case "hang":
		return p.doHang(said[0], number(said[1]))
	case "empty":
		return p.doEmpty(said[0], number(said[1]), number(said[2]))
	case "distil":
		return p.doDistil(said[0], number(said[1]), number(said[2]), number(said[3]), strings.Fields(said[4]))
	case "test":
		return p.doTest(said[0], api.RosinTest{Part: number(said[1]), Read: number(said[2]), Wrong: number(said[3])})
	case "grade":
		return p.doGrade(said[0])
	case "fill":
		return p.doFill(said[0], said[1], number(said[2]))
	case "pay":
		return p.doPay(said[0])
	}
	return p.ask(word, said)
}

func number(s string) int {
	n, _ := strconv.Atoi(s)
	return n
}

func list(l []int) string { return strings.Trim(fmt.Sprint(l), "[]") }

func (p *paper) taken(name string, many, most int) api.Errno {
	switch {
	case slices.Contains(slices.Concat(p.tags, p.people, p.names, p.drums), name):
		return api.ErrTwice
	case !regexp.MustCompile(`\A[a-z][a-z0-9-]{0,15}\z`).MatchString(name):
		return api.ErrForm
	case many >= most:
		return api.ErrFull
	}
	return api.OK
}

// isRight finds the rights of resin that are held, year by year.
func (p *paper) isRight() bool {
	for _, r := range p.Rights {
		for year := r.Offset; year <= 110; year += r.Every {
			if r.Use == api.UseResin && p.day >= 360*year+r.From && p.day <= 360*year+r.To {
				return true
			}
		}
	}
	return false
}

func (p *paper) doDay(day int) (string, api.Errno) {
	if day > 36500 || day < p.day {
		return "", api.ErrRange
	}
	p.day = day
	return "", api.OK
}

func (p *paper) doAct(word, tag string) (string, api.Errno) {
	tree := p.tree[tag]
	if tree == nil && word == "plant" {
		if e := p.taken(tag, len(p.tags), 32); e != api.OK {
			return "", e
		}
		tree = &paperTree{}
		p.tags = append(p.tags, tag)
		p.tree[tag] = tree
	}
	if tree == nil {
		return "", api.ErrUnknown
	}
	if word == "open" && !p.isRight() {
		return "", api.ErrBarred
	}
	lives := tree.state >= 1 && tree.state <= 3
	can := map[string]bool{"plant": tree.state == 0, "open": lives && p.day-tree.planted >= 1000, "rest": tree.state == 2, "die": lives, "fell": tree.state != 0}
	if !can[word] {
		return "", api.ErrState
	}
	tree.state = map[string]int{"plant": 1, "open": 2, "rest": 3, "die": 4, "fell": 0}[word]
	if word == "plant" {
		tree.planted = p.day
	}
	if word == "fell" {
		tree.tapper, tree.pot = "", 0
	}
	what := 1 + slices.Index([]string{"plant", "open", "rest", "die", "fell"}, word)
	p.acts = append(p.acts, api.TreeAct{Day: p.day, Tag: tag, What: what})
	return strconv.Itoa(tree.state), api.OK
}

func (p *paper) doTapper(name string) (string, api.Errno) {
	if e := p.taken(name, len(p.people), 12); e != api.OK {
		return "", e
	}
	p.people = append(p.people, name)
	p.tapper[name] = &paperTapper{grams: map[string]int{}}
	return "", api.OK
}

func (p *paper) doGive(tag, name string) (string, api.Errno) {
	tree := p.tree[tag]
	if tree == nil || p.tapper[name] == nil {
		return "", api.ErrUnknown
	}
	if tree.state == 0 || tree.pot != 0 {
		return "", api.ErrState
	}
	tree.tapper = name
	return "", api.OK
}

func (p *paper) doHang(tag string, size int) (string, api.Errno) {
	tree := p.tree[tag]
	switch {
	case tree == nil:
		return "", api.ErrUnknown
	case tree.state != 2 || tree.tapper == "" || tree.pot != 0:
		return "", api.ErrState
	case size < 1 || size > 1000000:
		return "", api.ErrRange
	}
	tree.pot = size
	p.tapper[tree.tapper].loan += p.Advance
	p.lent += p.Advance
	return "", api.OK
}

func (p *paper) doEmpty(tag string, resin, water int) (string, api.Errno) {
	tree := p.tree[tag]
	switch {
	case tree == nil:
		return "", api.ErrUnknown
	case !p.isRight():
		return "", api.ErrBarred
	case tree.pot == 0:
		return "", api.ErrState
	case resin+water > tree.pot:
		return "", api.ErrHeavy
	}
	tapper := p.tapper[tree.tapper]
	tapper.grams[tag] += resin
	tapper.water += water
	if !slices.Contains(tapper.tags, tag) {
		tapper.tags = append(tapper.tags, tag)
	}
	return "", api.OK
}

func gramsOf(grams map[string]int) int {
	all := 0
	for _, n := range grams {
		all += n
	}
	return all
}

func (p *paper) doDistil(name string, spirit, fume, dirt int, people []string) (string, api.Errno) {
	if e := p.taken(name, len(p.names), 16); e != api.OK {
		return "", e
	}
	b := &paperBatch{grade: -1, people: people, grams: map[string]int{}}
	for i, n := range people {
		if p.tapper[n] == nil {
			return "", api.ErrUnknown
		}
		if slices.Contains(people[:i], n) || gramsOf(p.tapper[n].grams) == 0 {
			return "", api.ErrState
		}
		b.resin = append(b.resin, gramsOf(p.tapper[n].grams))
		for tag, grams := range p.tapper[n].grams {
			b.grams[tag] += grams
		}
		for _, tag := range p.tapper[n].tags {
			if !slices.Contains(b.tags, tag) {
				b.tags = append(b.tags, tag)
			}
		}
	}
	b.rosin = gramsOf(b.grams) - spirit - fume - dirt
	if b.rosin < 0 {
		return "", api.ErrHeavy
	}
	b.left = b.rosin
	for _, n := range people {
		p.drained += p.tapper[n].water
		p.tapper[n].water, p.tapper[n].grams, p.tapper[n].tags = 0, map[string]int{}, nil
	}
	p.spirit, p.fume, p.dirt = p.spirit+spirit, p.fume+fume, p.dirt+dirt
	p.names = append(p.names, name)
	p.batch[name] = b
	return strconv.Itoa(b.rosin), api.OK
}

func (p *paper) doTest(name string, test api.RosinTest) (string, api.Errno) {
	b := p.batch[name]
	if b == nil {
		return "", api.ErrUnknown
	}
	if b.grade >= 0 {
		return "", api.ErrState
	}
	tests := append(slices.Clone(b.tests), test)
	grades, e := rosin.Grades(p.Grades, tests)
	if e != api.OK {
		return "", e
	}
	b.tests = tests
	return list(grades), api.OK
}

func (p *paper) doGrade(name string) (string, api.Errno) {
	b := p.batch[name]
	if b == nil {
		return "", api.ErrUnknown
	}
	if b.grade >= 0 {
		return "", api.ErrState
	}
	grades, _ := rosin.Grades(p.Grades, b.tests)
	if len(grades) > 1 {
		return "", api.ErrUnproved
	}
	b.grade = grades[0]
	return strconv.Itoa(b.grade), api.OK
}

func (p *paper) doFill(name, batch string, grams int) (string, api.Errno) {
	if e := p.taken(name, len(p.drums), 32); e != api.OK {
		return "", e
	}
	b := p.batch[batch]
	if b == nil {
		return "", api.ErrUnknown
	}
	if grams == 0 || grams > b.left {
		return "", api.ErrHeavy
	}
	b.left -= grams
	p.drums = append(p.drums, name)
	p.drum[name] = &paperDrum{batch, grams}
	return strconv.Itoa(b.left), api.OK
}

func (p *paper) doPay(name string) (string, api.Errno) {
	b := p.batch[name]
	if b == nil {
		return "", api.ErrUnknown
	}
	if b.grade < 0 || b.paid {
		return "", api.ErrState
	}
	worth := 0
	if b.grade < len(p.Grades) {
		worth = b.rosin * p.Grades[b.grade].Price / 1000
	}
	paid, kept, fund := 0, 0, worth
	for i, n := range b.people {
		share := worth * b.resin[i] / gramsOf(b.grams)
		fund -= share
		owed := p.tapper[n].loan
		p.tapper[n].loan = max(0, owed-share)
		p.tapper[n].paid += max(0, share-owed)
		kept += min(share, owed)
		paid += max(0, share-owed)
	}
	b.paid = true
	p.kept, p.fund = p.kept+kept, p.fund+fund
	return list([]int{paid, kept, fund}), api.OK
}

func (p *paper) ask(word string, said []string) (string, api.Errno) {
	switch word {
	case "owes":
		if t := p.tapper[said[0]]; t != nil {
			return list([]int{t.loan, t.paid}), api.OK
		}
	case "tree":
		if t := p.tree[said[0]]; t != nil {
			return strconv.Itoa(t.state), api.OK
		}
	case "trace":
		if d := p.drum[said[0]]; d != nil {
			b := p.batch[d.batch]
			return d.batch + " : " + strings.Join(b.people, " ") + " : " + strings.Join(b.tags, " "), api.OK
		}
	case "totals":
		return strings.Trim(fmt.Sprint(p.totals()), "{}"), api.OK
	}
	return "", api.ErrUnknown
}

// totals are what there is on all papers.
func (p *paper) totals() api.ForestTotals {
	t := api.ForestTotals{Drain: p.drained, Spirit: p.spirit, Fume: p.fume, Dirt: p.dirt, Lent: p.lent, Kept: p.kept, Fund: p.fund}
	for _, x := range p.tapper {
		t.Resin += gramsOf(x.grams)
		t.Water += x.water
		t.Paid += x.paid
	}
	for _, x := range p.batch {
		t.Rosin += x.left
	}
	for _, x := range p.drum {
		t.Drums += x.grams
	}
	return t
}

// indices are the places of names in a list.
func indices(names, all []string) []int {
	var l []int
	for _, n := range names {
		l = append(l, slices.Index(all, n))
	}
	return l
}

// state is all that a forest with these papers says of itself.
func (p *paper) state() string {
	var trees []api.ForestTree
	for _, n := range p.tags {
		x := p.tree[n]
		trees = append(trees, api.ForestTree{Tag: n, State: x.state, Tapper: slices.Index(p.people, x.tapper), Pot: x.pot})
	}
	var tappers []api.Tapper
	for _, n := range p.people {
		x := p.tapper[n]
		tappers = append(tappers, api.Tapper{Name: n, Loan: x.loan, Paid: x.paid, Resin: gramsOf(x.grams), Water: x.water, Trees: indices(x.tags, p.tags)})
	}
	var batches []api.ForestBatch
	for _, n := range p.names {
		x := p.batch[n]
		batches = append(batches, api.ForestBatch{Name: n, Tappers: indices(x.people, p.people), Resin: x.resin, Trees: indices(x.tags, p.tags), Left: x.left, Rosin: x.rosin, Tests: x.tests, Grade: x.grade, Paid: x.paid})
	}
	var drums []api.Drum
	for _, n := range p.drums {
		drums = append(drums, api.Drum{Name: n, Batch: slices.Index(p.names, p.drum[n].batch), Grams: p.drum[n].grams})
	}
	return fmt.Sprint(p.day, p.acts, trees, tappers, batches, drums, p.totals(), len(p.journal))
}
